/- A store in bytes: the specification of StoreText. -/
import Derived.Test.YtmofljfffcnlbaaMPSxZat
import Derived.Test.YtmofljfffcnlbaaMPSxOkD
import Derived.Test.YtmofljfffcnlbaaMPSxZau
import Derived.Deep.RegionHeld3
namespace Go.Proofs.Ytmofljfffcnlbaa
open Go.RowKit

theorem keepX3 {w W W' : World} {p0 p1 p2 : Addr} {u0 u1 u2 : Value} (hb : Below W.heap.size W W') (h : W.cell? p0 = some u0 ∧ W.cell? p1 = some u1 ∧ W.cell? p2 = some u2 ∧ Hid (Below w.heap.size w W)) : W'.cell? p0 = some u0 ∧ W'.cell? p1 = some u1 ∧ W'.cell? p2 = some u2 ∧ Hid (Below w.heap.size w W') :=
  ⟨(hb.cell (World.block_lt_of_cell? _ _ h.1)).trans h.1, (hb.cell (World.block_lt_of_cell? _ _ h.2.1)).trans h.2.1, (hb.cell (World.block_lt_of_cell? _ _ h.2.2.1)).trans h.2.2.1, h.2.2.2.out.trans (hb.mono h.2.2.2.out.size)⟩
theorem keepX4 {w W W' : World} {p0 p1 p2 p3 : Addr} {u0 u1 u2 u3 : Value} (hb : Below W.heap.size W W') (h : W.cell? p0 = some u0 ∧ W.cell? p1 = some u1 ∧ W.cell? p2 = some u2 ∧ W.cell? p3 = some u3 ∧ Hid (Below w.heap.size w W)) : W'.cell? p0 = some u0 ∧ W'.cell? p1 = some u1 ∧ W'.cell? p2 = some u2 ∧ W'.cell? p3 = some u3 ∧ Hid (Below w.heap.size w W') :=
  ⟨(hb.cell (World.block_lt_of_cell? _ _ h.1)).trans h.1, (hb.cell (World.block_lt_of_cell? _ _ h.2.1)).trans h.2.1, (hb.cell (World.block_lt_of_cell? _ _ h.2.2.1)).trans h.2.2.1, (hb.cell (World.block_lt_of_cell? _ _ h.2.2.2.1)).trans h.2.2.2.1, h.2.2.2.2.out.trans (hb.mono h.2.2.2.2.out.size)⟩

namespace St
theorem nm_le8 {s : ByteArray} (h : Cd.nm s.data.toList = true) : s.size ≤ 8 := by
  unfold Cd.nm at h
  simp only [Bool.and_eq_true, decide_eq_true_eq] at h
  have h2 : s.data.toList.length = s.size := by simp
  omega
theorem short_le {s : ByteArray} {m : Nat} (h : s.size ≤ m) : (Cd.short s).length ≤ m + 9 := by
  have h1 := l01_bytes s.size
  have h2 : s.data.toList.length = s.size := by simp
  unfold Cd.short
  rw [List.length_append, h2]
  omega
/-- What a right store holds. -/
theorem ok_sizes {vs : List Vr} {cs : List Cl} {o : ByteArray} (h : ok vs cs o = true) : vs.length ≤ 60 ∧ cs.length ≤ 2000 ∧ o.size ≤ 3000 ∧
    (∀ i, i < vs.length → (vs.getD i Vr.no).name.size ≤ 8 ∧ (vs.getD i Vr.no).val.size ≤ 40) ∧ (∀ i, i < cs.length → (cs.getD i Cl.no).name.size ≤ 8 ∧ (cs.getD i Cl.no).key.size ≤ 40 ∧ (cs.getD i Cl.no).val.size ≤ 40) := by
  unfold ok at h
  simp only [Bool.and_eq_true, decide_eq_true_eq, List.all_eq_true, List.mem_range] at h
  obtain ⟨⟨h1, h2, h3⟩, -, h4, h5⟩ := h
  refine ⟨h1, h2, h3, fun i hi => ?_, fun i hi => ?_⟩
  · have := h4 i hi
    simp only [goodV, Bool.and_eq_true, decide_eq_true_eq] at this
    exact ⟨nm_le8 this.1, this.2⟩
  · have := h5 i hi
    simp only [goodC, Bool.and_eq_true, decide_eq_true_eq] at this
    exact ⟨nm_le8 this.1, this.2.1, this.2.2⟩
end St

set_option maxHeartbeats 4000000 in
set_option maxRecDepth 100000 in
theorem spStoreText (tv lv : Value) (o : ByteArray) (vs : List Vr) (cs : List Cl) (w : World) (h1 : VrAt w tv vs) (h2 : ClAt w lv cs) (hs : StSmall vs cs o) :
    Calls Try.prog 22 #[.agg #[tv, lv, .string o]] w fun e w' => e = .returned (St.text? vs cs o) ∧ Below w.heap.size w w' := by
  obtain ⟨V, hV⟩ : ∃ V, V = St.ok vs cs o := ⟨_, rfl⟩
  have CO : Hid (∀ W, Below w.heap.size w W → Calls Try.prog 10 #[.agg #[tv, lv, .string o]] W fun e w' => e = .returned (.bool V) ∧ Below W.heap.size W w') := fun W hb => by rw [hV]; exact spStoreOk tv lv o vs cs W (h1.keep hb) (h2.keep hb) hs
  have HT : Hid (∀ W, Below w.heap.size w W → VrAt W tv vs ∧ ClAt W lv cs) := fun W hb => ⟨h1.keep hb, h2.keep hb⟩
  obtain ⟨ta, tc, rfl, -⟩ := h1
  obtain ⟨la, lc, rfl, -⟩ := h2
  obtain ⟨m, hm⟩ : ∃ m, m = cs.length := ⟨_, rfl⟩
  obtain ⟨n, hn⟩ : ∃ n, n = vs.length := ⟨_, rfl⟩
  have HM : Hid (m = cs.length ∧ n = vs.length) := ⟨hm, hn⟩
  have hn9 : n ≤ 1048576 := by rw [hn]; exact hs.1
  have hm9 : m ≤ 1048576 := by rw [hm]; exact hs.2.2.1
  rw [← hm, ← hn] at HT CO ⊢
  clear hm hn hs
  have HB0 : Hid (Below w.heap.size w (w.alloc (.cells #[.slice ta n tc, .slice la m lc, .string o] 27))) := (Below.refl _ _).alloc (Nat.le_refl _) _
  have HR0 : Hid ((w.alloc (.cells #[.slice ta n tc, .slice la m lc, .string o] 27)).heap[w.heap.size]? = some (.cells #[.slice ta n tc, .slice la m lc, .string o] 27 (0, 0))) := heap_alloc_new _ _
  have hz : w.heap.size < (w.alloc (.cells #[.slice ta n tc, .slice la m lc, .string o] 27)).heap.size := by simp
  go_enter Try.func22, Try.ntmps22
  go_wp2_with fail
  generalize w.alloc (.cells #[.slice ta n tc, .slice la m lc, .string o] 27) = W0 at *
  have HC : Hid (∀ W, Below W0.heap.size W0 W → W.heap[w.heap.size]? = some (.cells #[.slice ta n tc, .slice la m lc, .string o] 27 (0, 0)) ∧ Below w.heap.size w W) := fun W hb => ⟨(hb.block _ hz).trans HR0.out, HB0.out.trans (hb.mono HB0.out.size)⟩
  refine (CO.out _ HB0.out).mono ?_
  rintro e w1 ⟨rfl, hb1⟩
  have HB1 : Hid (Below W0.heap.size W0 w1) := hb1
  clear hb1 CO HR0 HB0
  cases V
  · have HF : Hid (St.text? vs cs o = .tuple #[.string ⟨#[]⟩, .bool false]) := by show _ = _; unfold St.text?; rw [← hV]; rfl
    clear hV
    go_wp2
    go_ret2
    exact ⟨by rw [HF.out]; rfl, (HC.out _ HB1.out).2⟩
  obtain ⟨BY, hBY⟩ : ∃ BY, BY = St.bytes vs cs o := ⟨_, rfl⟩
  have HF : Hid (St.text? vs cs o = .tuple #[.string ⟨BY.toArray⟩, .bool true]) := by show _ = _; unfold St.text?; rw [← hV, hBY]; rfl
  obtain ⟨g1, g2, g3, g4, g5⟩ := St.ok_sizes hV.symm
  have HG : Hid (∀ i, i < n → (vs.getD i Vr.no).name.size ≤ 8 ∧ (vs.getD i Vr.no).val.size ≤ 40) := by rw [HM.out.2]; exact g4
  have HI : Hid (∀ i, i < m → (cs.getD i Cl.no).name.size ≤ 8 ∧ (cs.getD i Cl.no).key.size ≤ 40 ∧ (cs.getD i Cl.no).val.size ≤ 40) := by rw [HM.out.1]; exact g5
  rw [← HM.out.2] at g1
  rw [← HM.out.1] at g2
  have HBY : Hid (BY = Pl.vb 8 n ++ vs.flatMap St.vbytes ++ Pl.vb 8 m ++ cs.flatMap St.cbytes ++ Cd.short o) := by show _ = _; rw [hBY, HM.out.1, HM.out.2]; rfl
  have CV : Hid (∀ (W : World) (k : Nat), k ≤ 2000 → Calls Try.prog 42 #[.int .i64 (k : Int)] W fun e w' => e = .returned (.string ⟨(Pl.vb 8 k).toArray⟩) ∧ Below W.heap.size W w') := fun W k hk => l01Var_any k W (by omega)
  have CS : Hid (∀ (W : World) (t : ByteArray), t.size ≤ 3000 → Calls Try.prog 43 #[.string t] W fun e w' => e = .returned (.string ⟨(Cd.short t).toArray⟩) ∧ Below W.heap.size W w') := fun W t ht => spShort7 t W (by omega)
  have HLB : Hid (∀ k, (Pl.vb 8 n ++ (vs.take k).flatMap St.vbytes).length ≤ 5000) := by
    intro k
    have h1 := l01_bytes n
    have h2 := Cd.flat_le St.vbytes 66 (vs.take k) (fun x hx => by
      obtain ⟨i, hi, e⟩ := List.mem_iff_getElem.1 (List.mem_of_mem_take hx)
      have h3 := g4 i hi
      rw [List.getD_eq_getElem?_getD, List.getElem?_eq_getElem hi] at h3
      simp only [Option.getD_some, e] at h3
      have h4 := St.short_le h3.1
      have h5 := St.short_le h3.2
      unfold St.vbytes
      rw [List.length_append]
      omega)
    have h6 : (vs.take k).length ≤ 60 := by have := HM.out.2; rw [List.length_take]; omega
    rw [List.length_append]
    omega
  have HTB : Hid (∀ k, ((cs.take k).flatMap St.cbytes).length ≤ 250000) := by
    intro k
    have h2 := Cd.flat_le St.cbytes 115 (cs.take k) (fun x hx => by
      obtain ⟨i, hi, e⟩ := List.mem_iff_getElem.1 (List.mem_of_mem_take hx)
      have h3 := g5 i hi
      rw [List.getD_eq_getElem?_getD, List.getElem?_eq_getElem hi] at h3
      simp only [Option.getD_some, e] at h3
      have h4 := St.short_le h3.1
      have h5 := St.short_le h3.2.1
      have h7 := St.short_le h3.2.2
      unfold St.cbytes
      rw [List.length_append, List.length_append]
      omega)
    have h6 : (cs.take k).length ≤ 2000 := by have := HM.out.1; rw [List.length_take]; omega
    omega
  have hvm := l01_bytes m
  have hvo := St.short_le g3
  have HO3 : Hid (o.size ≤ 3000) := g3
  clear g4 g5 hV hBY g3 hn9 hm9
  have R := (HC.out _ HB1.out).1
  have q0 := blk_cell R 0
  simp only [List.getElem?_toArray, List.getElem?_cons_zero] at q0
  clear R
  go_wp2_with fail
  refine (CV.out _ n (by omega)).mono ?_
  rintro e w2 ⟨rfl, hb2⟩
  have HB2 : Hid (Below W0.heap.size W0 w2) := HB1.out.trans (hb2.mono HB1.out.size)
  clear hb2 HB1 q0
  go_wp2
  go_loopw [4, 5] (fun s i wr => ∃ k : Nat, i = .int .i64 (k : Int) ∧ k ≤ n ∧ Hid (s = .string ⟨(Pl.vb 8 n ++ (vs.take k).flatMap St.vbytes).toArray⟩) ∧ Hid (Below W0.heap.size W0 wr)) (fun _ i _ => n - (intOf i).toNat)
  case atStart => exact ⟨0, rfl, by omega, by show _ = _; simp, HB2.out⟩
  case round =>
    clear HB2
    obtain ⟨k, rfl, hk, HSV, HB⟩ := hrel
    obtain ⟨R, hbw⟩ := HC.out _ HB.out
    have q0 := blk_cell R 0
    have q1 := blk_cell R 1
    have q2 := blk_cell R 2
    simp only [List.getElem?_toArray, List.getElem?_cons_zero, List.getElem?_cons_succ] at q0 q1 q2
    clear R
    by_cases hlt : k < n
    · have d0 : decide ((k : Int) < (n : Int)) = true := decide_eq_true (by omega)
      have hk1 : (k : Int) < (n : Int) := by omega
      obtain ⟨b, p, rfl, -, c0, c1⟩ := (HT.out _ hbw).1.row HM.out.2.symm hlt
      obtain ⟨z8, z40⟩ := HG.out k hlt
      have HNX : Hid (Pl.vb 8 n ++ (vs.take (k + 1)).flatMap St.vbytes = (Pl.vb 8 n ++ (vs.take k).flatMap St.vbytes) ++ (Cd.short (vs.getD k Vr.no).name ++ Cd.short (vs.getD k Vr.no).val)) := by
        show _ = _
        rw [Cd.take_flat St.vbytes vs Vr.no k (by rw [← HM.out.2]; exact hlt), List.append_assoc]
        rfl
      have CN : Hid (∀ W, Calls Try.prog 43 #[.string (vs.getD k Vr.no).name] W fun e w' => e = .returned (.string ⟨(Cd.short (vs.getD k Vr.no).name).toArray⟩) ∧ Below W.heap.size W w') := fun W => CS.out W _ (by omega)
      have CX : Hid (∀ W, Calls Try.prog 43 #[.string (vs.getD k Vr.no).val] W fun e w' => e = .returned (.string ⟨(Cd.short (vs.getD k Vr.no).val).toArray⟩) ∧ Below W.heap.size W w') := fun W => CS.out W _ (by omega)
      have hSl := HLB.out k
      have hAl := St.short_le z8
      have hBl := St.short_le z40
      generalize Pl.vb 8 n ++ (vs.take k).flatMap St.vbytes = S at *
      obtain rfl := HSV.out
      generalize Cd.short (vs.getD k Vr.no).name = A at *
      generalize Cd.short (vs.getD k Vr.no).val = B at *
      generalize (vs.getD k Vr.no).name = nm at *
      generalize (vs.getD k Vr.no).val = vl at *
      have HCAT : Hid ((⟨S.toArray⟩ ++ ⟨A.toArray⟩ ++ ⟨B.toArray⟩ : ByteArray) = ⟨(S ++ (A ++ B)).toArray⟩) := by show _ = _; rw [cat_list, cat_list, List.append_assoc]
      have z1 : ¬ 9223372036854775807 < S.length + A.length := by omega
      have z2 : ¬ 9223372036854775807 < S.length + A.length + B.length := by omega
      have HBD : Hid (Below W0.heap.size W0 wr.drew) := HB.out.drew
      clear HSV hbw z8 z40 q1 q2 HB
      go_wp2_with fail
      go_region_held3 (fun W => W.cell? ⟨w.heap.size, 0, none⟩ = some (.slice (some ⟨b, p, none⟩) n tc) ∧ W.cell? ⟨b, p + k * 2, none⟩ = some (.string nm) ∧ W.cell? ⟨b, p + k * 2 + 1, none⟩ = some (.string vl) ∧ Hid (Below W0.heap.size W0 W)) (first | exact keepX3 hb3 (keepX3 hb2 (by assumption)) | exact keepX3 hb3 (by assumption) | exact keepX3 hb2 (by assumption) | exact ⟨q0, c0, c1, HBD.out⟩ | assumption) (first | (go_at_call_of 43 (Value.string nm); refine (CN.out _).mono ?_; rintro e a2 ⟨rfl, hb2⟩) | (go_at_call_of 43 (Value.string vl); refine (CX.out _).mono ?_; rintro e a3 ⟨rfl, hb3⟩))
      all_goals
        have hbf : Hid (Below W0.heap.size W0 a3) := HBD.out.trans ((hb2.trans (hb3.mono hb2.size)).mono HBD.out.size)
        clear hb2 hb3 HBD CN CX q0 c0 c1
        go_wp2
        go_roundw
        case rel => exact ⟨k + 1, by go_num, by omega, by show _ = _; rw [HNX.out, ← HCAT.out], hbf.out⟩
        case measure => simp [intOf]; omega
    · have HKK : Hid (k = n) := (by omega : k = n)
      have d0 : decide ((k : Int) < (n : Int)) = false := decide_eq_false (by omega)
      obtain ⟨S, hS⟩ : ∃ S, S = Pl.vb 8 n ++ vs.flatMap St.vbytes := ⟨_, rfl⟩
      have HS2 : Hid (Pl.vb 8 n ++ (vs.take k).flatMap St.vbytes = S) := by show _ = _; rw [hS, HKK.out, HM.out.2, List.take_length]
      have hSl := HLB.out k
      rw [HS2.out] at HSV hSl
      obtain rfl := HSV.out
      have HBY2 : Hid (BY = S ++ Pl.vb 8 m ++ cs.flatMap St.cbytes ++ Cd.short o) := by show _ = _; rw [hS]; exact HBY.out
      clear hS HSV HS2 HBY hbw
      have HCAT : Hid ((⟨S.toArray⟩ ++ ⟨(Pl.vb 8 m).toArray⟩ : ByteArray) = ⟨(S ++ Pl.vb 8 m).toArray⟩) := cat_list _ _
      go_wp2_with fail
      refine (CV.out _ m g2).mono ?_
      rintro e w3 ⟨rfl, hb3⟩
      have HB3 : Hid (Below W0.heap.size W0 w3) := HB.out.trans (hb3.mono HB.out.size)
      obtain ⟨P, hP⟩ : ∃ P, P = S ++ Pl.vb 8 m := ⟨_, rfl⟩
      have hPl : P.length ≤ 5100 := by rw [hP, List.length_append]; omega
      rw [← hP] at HCAT HBY2
      clear hb3 HB hP q0 q1 q2
      go_wp2
      go_loopw [4, 6] (fun s i wr => ∃ k : Nat, i = .int .i64 (k : Int) ∧ k ≤ m ∧ Hid (s = .string ⟨(P ++ (cs.take k).flatMap St.cbytes).toArray⟩) ∧ Hid (Below W0.heap.size W0 wr)) (fun _ i _ => m - (intOf i).toNat)
      case atStart => exact ⟨0, rfl, by omega, by show _ = _; rw [HCAT.out]; simp, HB3.out⟩
      case round =>
        clear HB3 HCAT
        obtain ⟨k2, rfl, hk2, HSV, HB⟩ := hrel
        obtain ⟨R, hbw⟩ := HC.out _ HB.out
        have q1 := blk_cell R 1
        have q2 := blk_cell R 2
        simp only [List.getElem?_toArray, List.getElem?_cons_zero, List.getElem?_cons_succ] at q1 q2
        clear R
        by_cases hlt2 : k2 < m
        · have e0 : decide ((k2 : Int) < (m : Int)) = true := decide_eq_true (by omega)
          have hk3 : (k2 : Int) < (m : Int) := by omega
          obtain ⟨b, p, rfl, -, c0, c1, c2⟩ := (HT.out _ hbw).2.row HM.out.1.symm hlt2
          obtain ⟨z8, z40, z41⟩ := HI.out k2 hlt2
          have HNX : Hid (P ++ (cs.take (k2 + 1)).flatMap St.cbytes = (P ++ (cs.take k2).flatMap St.cbytes) ++ (Cd.short (cs.getD k2 Cl.no).name ++ (Cd.short (cs.getD k2 Cl.no).key ++ Cd.short (cs.getD k2 Cl.no).val))) := by
            show _ = _
            rw [Cd.take_flat St.cbytes cs Cl.no k2 (by rw [← HM.out.1]; exact hlt2), List.append_assoc]
            rfl
          have CN : Hid (∀ W, Calls Try.prog 43 #[.string (cs.getD k2 Cl.no).name] W fun e w' => e = .returned (.string ⟨(Cd.short (cs.getD k2 Cl.no).name).toArray⟩) ∧ Below W.heap.size W w') := fun W => CS.out W _ (by omega)
          have CK : Hid (∀ W, Calls Try.prog 43 #[.string (cs.getD k2 Cl.no).key] W fun e w' => e = .returned (.string ⟨(Cd.short (cs.getD k2 Cl.no).key).toArray⟩) ∧ Below W.heap.size W w') := fun W => CS.out W _ (by omega)
          have CX : Hid (∀ W, Calls Try.prog 43 #[.string (cs.getD k2 Cl.no).val] W fun e w' => e = .returned (.string ⟨(Cd.short (cs.getD k2 Cl.no).val).toArray⟩) ∧ Below W.heap.size W w') := fun W => CS.out W _ (by omega)
          have hSl2 : (P ++ (cs.take k2).flatMap St.cbytes).length ≤ 260000 := by have := HTB.out k2; rw [List.length_append]; omega
          have hAl := St.short_le z8
          have hKl := St.short_le z40
          have hBl := St.short_le z41
          generalize P ++ (cs.take k2).flatMap St.cbytes = S2 at *
          obtain rfl := HSV.out
          generalize Cd.short (cs.getD k2 Cl.no).name = A at *
          generalize Cd.short (cs.getD k2 Cl.no).key = K at *
          generalize Cd.short (cs.getD k2 Cl.no).val = B at *
          generalize (cs.getD k2 Cl.no).name = nm at *
          generalize (cs.getD k2 Cl.no).key = ky at *
          generalize (cs.getD k2 Cl.no).val = vl at *
          have HCAT : Hid ((⟨S2.toArray⟩ ++ ⟨A.toArray⟩ ++ ⟨K.toArray⟩ ++ ⟨B.toArray⟩ : ByteArray) = ⟨(S2 ++ (A ++ (K ++ B))).toArray⟩) := by show _ = _; rw [cat_list, cat_list, cat_list]; simp only [List.append_assoc]
          have z1 : ¬ 9223372036854775807 < S2.length + A.length := by omega
          have z2 : ¬ 9223372036854775807 < S2.length + A.length + K.length := by omega
          have z3 : ¬ 9223372036854775807 < S2.length + A.length + K.length + B.length := by omega
          have HBD : Hid (Below W0.heap.size W0 wr.drew) := HB.out.drew
          clear HSV hbw z8 z40 z41 q2 HB
          go_wp2_with fail
          go_region_held3 (fun W => W.cell? ⟨w.heap.size, 1, none⟩ = some (.slice (some ⟨b, p, none⟩) m lc) ∧ W.cell? ⟨b, p + k2 * 3, none⟩ = some (.string nm) ∧ W.cell? ⟨b, p + k2 * 3 + 1, none⟩ = some (.string ky) ∧ W.cell? ⟨b, p + k2 * 3 + 2, none⟩ = some (.string vl) ∧ Hid (Below W0.heap.size W0 W)) (first | exact keepX4 hb3 (by assumption) | exact keepX4 hb2 (by assumption) | exact keepX4 hb4 (by assumption) | exact ⟨q1, c0, c1, c2, HBD.out⟩ | assumption) (first | (go_at_call_of 43 (Value.string nm); refine (CN.out _).mono ?_; rintro e a2 ⟨rfl, hb2⟩) | (go_at_call_of 43 (Value.string vl); refine (CX.out _).mono ?_; rintro e a3 ⟨rfl, hb3⟩) | (go_at_call_of 43 (Value.string ky); refine (CK.out _).mono ?_; rintro e a4 ⟨rfl, hb4⟩))
          all_goals
            have hbf : Hid (Below W0.heap.size W0 a3) := HBD.out.trans ((hb2.trans ((hb4.trans (hb3.mono hb4.size)).mono hb2.size)).mono HBD.out.size)
            clear hb2 hb3 hb4 HBD CN CX CK q1 c0 c1 c2
            go_wp2
            go_roundw
            case rel => exact ⟨k2 + 1, by go_num, by omega, by show _ = _; rw [HNX.out, ← HCAT.out], hbf.out⟩
            case measure => simp [intOf]; omega
        · have HKK2 : Hid (k2 = m) := (by omega : k2 = m)
          have e0 : decide ((k2 : Int) < (m : Int)) = false := decide_eq_false (by omega)
          obtain ⟨S2, hS2⟩ : ∃ S2, S2 = P ++ cs.flatMap St.cbytes := ⟨_, rfl⟩
          have HS3 : Hid (P ++ (cs.take k2).flatMap St.cbytes = S2) := by show _ = _; rw [hS2, HKK2.out, HM.out.1, List.take_length]
          have hS2l : (P ++ (cs.take k2).flatMap St.cbytes).length ≤ 260000 := by have := HTB.out k2; rw [List.length_append]; omega
          rw [HS3.out] at HSV hS2l
          obtain rfl := HSV.out
          have HBY3 : Hid ((⟨S2.toArray⟩ ++ ⟨(Cd.short o).toArray⟩ : ByteArray) = ⟨BY.toArray⟩) := by
            show _ = _
            rw [cat_list, HBY2.out, hS2]
          clear hS2 HSV HS3 HBY2
          have CL : Hid (∀ W, Calls Try.prog 43 #[.string o] W fun e w' => e = .returned (.string ⟨(Cd.short o).toArray⟩) ∧ Below W.heap.size W w') := fun W => CS.out W o HO3.out
          generalize Cd.short o = VL at *
          have HE : Hid (∀ W, Hid (Below W0.heap.size W0 W) → Below w.heap.size w W) := fun W hb => (HC.out _ hb.out).2
          clear HC HT hbw CV CS
          go_wp2_with fail
          refine (CL.out _).mono ?_
          rintro e w4 ⟨rfl, hb4⟩
          have HB4 : Hid (Below W0.heap.size W0 w4) := HB.out.trans (hb4.mono HB.out.size)
          clear hb4 HB q1 q2 CL
          go_wp2
          go_ret2
          exact ⟨by rw [HF.out, ← HBY3.out]; rfl, HE.out _ HB4⟩
end Go.Proofs.Ytmofljfffcnlbaa
