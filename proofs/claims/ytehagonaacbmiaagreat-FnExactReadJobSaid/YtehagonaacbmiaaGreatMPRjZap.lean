/- A store in bytes: the specification of StoreText. A job: the specification of JobOk. A job in bytes: the specification of JobText. Plain facts: what is read of the bytes of code. -/
import Derived.Test.YtehagonaacbmiaaGreatMPRjZan
import Derived.Test.YtehagonaacbmiaaGreatMPRjOkD
import Derived.Test.YtehagonaacbmiaaGreatMPRjZao
import Derived.Deep.RegionHeld3
import Derived.Test.YtehagonaacbmiaaGreatMPRjZah
import Derived.Test.YtehagonaacbmiaaGreatMPRjZal
import Derived.Test.YtehagonaacbmiaaGreatMPRjZaj
namespace Go.Proofs.YtehagonaacbmiaaGreat
section PartStX
open Go.RowKit

theorem keepX3 {w W W' : World} {p0 p1 p2 : Addr} {u0 u1 u2 : Value} (hb : Below W.heap.size W W') (h : W.cell? p0 = some u0 ∧ W.cell? p1 = some u1 ∧ W.cell? p2 = some u2 ∧ Hid (Below w.heap.size w W)) : W'.cell? p0 = some u0 ∧ W'.cell? p1 = some u1 ∧ W'.cell? p2 = some u2 ∧ Hid (Below w.heap.size w W') :=
  ⟨(hb.cell (World.block_lt_of_cell? _ _ h.1)).trans h.1, (hb.cell (World.block_lt_of_cell? _ _ h.2.1)).trans h.2.1, (hb.cell (World.block_lt_of_cell? _ _ h.2.2.1)).trans h.2.2.1, h.2.2.2.out.trans (hb.mono h.2.2.2.out.size)⟩
theorem keepX4 {w W W' : World} {p0 p1 p2 p3 : Addr} {u0 u1 u2 u3 : Value} (hb : Below W.heap.size W W') (h : W.cell? p0 = some u0 ∧ W.cell? p1 = some u1 ∧ W.cell? p2 = some u2 ∧ W.cell? p3 = some u3 ∧ Hid (Below w.heap.size w W)) : W'.cell? p0 = some u0 ∧ W'.cell? p1 = some u1 ∧ W'.cell? p2 = some u2 ∧ W'.cell? p3 = some u3 ∧ Hid (Below w.heap.size w W') :=
  ⟨(hb.cell (World.block_lt_of_cell? _ _ h.1)).trans h.1, (hb.cell (World.block_lt_of_cell? _ _ h.2.1)).trans h.2.1, (hb.cell (World.block_lt_of_cell? _ _ h.2.2.1)).trans h.2.2.1, (hb.cell (World.block_lt_of_cell? _ _ h.2.2.2.1)).trans h.2.2.2.1, h.2.2.2.2.out.trans (hb.mono h.2.2.2.2.out.size)⟩

namespace St
theorem nm_le8 {s : ByteArray} (h : Cd.nm s.data.toList = true) : s.size ≤ 8 := by
  unfold Cd.nm at h
  simp only [Bool.and_eq_true, decide_eq_true_eq] at h
  have h2 : s.data.toList.length = s.size := by simp
  omega
theorem short_le {s : ByteArray} {m : Nat} (h : s.size ≤ m) : (Cd.short s).length ≤ m + 9 := by
  have h1 := l01_bytes s.size
  have h2 : s.data.toList.length = s.size := by simp
  unfold Cd.short
  rw [List.length_append, h2]
  omega
/-- What a right store holds. -/
theorem ok_sizes {vs : List Vr} {cs : List Cl} {o : ByteArray} (h : ok vs cs o = true) : vs.length ≤ 60 ∧ cs.length ≤ 2000 ∧ o.size ≤ 3000 ∧
    (∀ i, i < vs.length → (vs.getD i Vr.no).name.size ≤ 8 ∧ (vs.getD i Vr.no).val.size ≤ 40) ∧ (∀ i, i < cs.length → (cs.getD i Cl.no).name.size ≤ 8 ∧ (cs.getD i Cl.no).key.size ≤ 40 ∧ (cs.getD i Cl.no).val.size ≤ 40) := by
  unfold ok at h
  simp only [Bool.and_eq_true, decide_eq_true_eq, List.all_eq_true, List.mem_range] at h
  obtain ⟨⟨h1, h2, h3⟩, -, h4, h5⟩ := h
  refine ⟨h1, h2, h3, fun i hi => ?_, fun i hi => ?_⟩
  · have := h4 i hi
    simp only [goodV, Bool.and_eq_true, decide_eq_true_eq] at this
    exact ⟨nm_le8 this.1, this.2⟩
  · have := h5 i hi
    simp only [goodC, Bool.and_eq_true, decide_eq_true_eq] at this
    exact ⟨nm_le8 this.1, this.2.1, this.2.2⟩
end St

set_option maxHeartbeats 4000000 in
set_option maxRecDepth 100000 in
theorem spStoreText (tv lv : Value) (o : ByteArray) (vs : List Vr) (cs : List Cl) (w : World) (h1 : VrAt w tv vs) (h2 : ClAt w lv cs) (hs : StSmall vs cs o) :
    Calls Tryz.prog 66 #[.agg #[tv, lv, .string o]] w fun e w' => e = .returned (St.text? vs cs o) ∧ Below w.heap.size w w' := by
  obtain ⟨V, hV⟩ : ∃ V, V = St.ok vs cs o := ⟨_, rfl⟩
  have CO : Hid (∀ W, Below w.heap.size w W → Calls Tryz.prog 19 #[.agg #[tv, lv, .string o]] W fun e w' => e = .returned (.bool V) ∧ Below W.heap.size W w') := fun W hb => by rw [hV]; exact spStoreOk tv lv o vs cs W (h1.keep hb) (h2.keep hb) hs
  have HT : Hid (∀ W, Below w.heap.size w W → VrAt W tv vs ∧ ClAt W lv cs) := fun W hb => ⟨h1.keep hb, h2.keep hb⟩
  obtain ⟨ta, tc, rfl, -⟩ := h1
  obtain ⟨la, lc, rfl, -⟩ := h2
  obtain ⟨m, hm⟩ : ∃ m, m = cs.length := ⟨_, rfl⟩
  obtain ⟨n, hn⟩ : ∃ n, n = vs.length := ⟨_, rfl⟩
  have HM : Hid (m = cs.length ∧ n = vs.length) := ⟨hm, hn⟩
  have hn9 : n ≤ 1048576 := by rw [hn]; exact hs.1
  have hm9 : m ≤ 1048576 := by rw [hm]; exact hs.2.2.1
  rw [← hm, ← hn] at HT CO ⊢
  clear hm hn hs
  have HB0 : Hid (Below w.heap.size w (w.alloc (.cells #[.slice ta n tc, .slice la m lc, .string o] 40))) := (Below.refl _ _).alloc (Nat.le_refl _) _
  have HR0 : Hid ((w.alloc (.cells #[.slice ta n tc, .slice la m lc, .string o] 40)).heap[w.heap.size]? = some (.cells #[.slice ta n tc, .slice la m lc, .string o] 40 (0, 0))) := heap_alloc_new _ _
  have hz : w.heap.size < (w.alloc (.cells #[.slice ta n tc, .slice la m lc, .string o] 40)).heap.size := by simp
  go_enter Tryz.func66, Tryz.ntmps66
  go_wp2_with fail
  generalize w.alloc (.cells #[.slice ta n tc, .slice la m lc, .string o] 40) = W0 at *
  have HC : Hid (∀ W, Below W0.heap.size W0 W → W.heap[w.heap.size]? = some (.cells #[.slice ta n tc, .slice la m lc, .string o] 40 (0, 0)) ∧ Below w.heap.size w W) := fun W hb => ⟨(hb.block _ hz).trans HR0.out, HB0.out.trans (hb.mono HB0.out.size)⟩
  refine (CO.out _ HB0.out).mono ?_
  rintro e w1 ⟨rfl, hb1⟩
  have HB1 : Hid (Below W0.heap.size W0 w1) := hb1
  clear hb1 CO HR0 HB0
  cases V
  · have HF : Hid (St.text? vs cs o = .tuple #[.string ⟨#[]⟩, .bool false]) := by show _ = _; unfold St.text?; rw [← hV]; rfl
    clear hV
    go_wp2
    go_ret2
    exact ⟨by rw [HF.out]; rfl, (HC.out _ HB1.out).2⟩
  obtain ⟨BY, hBY⟩ : ∃ BY, BY = St.bytes vs cs o := ⟨_, rfl⟩
  have HF : Hid (St.text? vs cs o = .tuple #[.string ⟨BY.toArray⟩, .bool true]) := by show _ = _; unfold St.text?; rw [← hV, hBY]; rfl
  obtain ⟨g1, g2, g3, g4, g5⟩ := St.ok_sizes hV.symm
  have HG : Hid (∀ i, i < n → (vs.getD i Vr.no).name.size ≤ 8 ∧ (vs.getD i Vr.no).val.size ≤ 40) := by rw [HM.out.2]; exact g4
  have HI : Hid (∀ i, i < m → (cs.getD i Cl.no).name.size ≤ 8 ∧ (cs.getD i Cl.no).key.size ≤ 40 ∧ (cs.getD i Cl.no).val.size ≤ 40) := by rw [HM.out.1]; exact g5
  rw [← HM.out.2] at g1
  rw [← HM.out.1] at g2
  have HBY : Hid (BY = Pl.vb 8 n ++ vs.flatMap St.vbytes ++ Pl.vb 8 m ++ cs.flatMap St.cbytes ++ Cd.short o) := by show _ = _; rw [hBY, HM.out.1, HM.out.2]; rfl
  have CV : Hid (∀ (W : World) (k : Nat), k ≤ 2000 → Calls Tryz.prog 69 #[.int .i64 (k : Int)] W fun e w' => e = .returned (.string ⟨(Pl.vb 8 k).toArray⟩) ∧ Below W.heap.size W w') := fun W k hk => l01Var_any k W (by omega)
  have CS : Hid (∀ (W : World) (t : ByteArray), t.size ≤ 3000 → Calls Tryz.prog 68 #[.string t] W fun e w' => e = .returned (.string ⟨(Cd.short t).toArray⟩) ∧ Below W.heap.size W w') := fun W t ht => spShort7 t W (by omega)
  have HLB : Hid (∀ k, (Pl.vb 8 n ++ (vs.take k).flatMap St.vbytes).length ≤ 5000) := by
    intro k
    have h1 := l01_bytes n
    have h2 := Cd.flat_le St.vbytes 66 (vs.take k) (fun x hx => by
      obtain ⟨i, hi, e⟩ := List.mem_iff_getElem.1 (List.mem_of_mem_take hx)
      have h3 := g4 i hi
      rw [List.getD_eq_getElem?_getD, List.getElem?_eq_getElem hi] at h3
      simp only [Option.getD_some, e] at h3
      have h4 := St.short_le h3.1
      have h5 := St.short_le h3.2
      unfold St.vbytes
      rw [List.length_append]
      omega)
    have h6 : (vs.take k).length ≤ 60 := by have := HM.out.2; rw [List.length_take]; omega
    rw [List.length_append]
    omega
  have HTB : Hid (∀ k, ((cs.take k).flatMap St.cbytes).length ≤ 250000) := by
    intro k
    have h2 := Cd.flat_le St.cbytes 115 (cs.take k) (fun x hx => by
      obtain ⟨i, hi, e⟩ := List.mem_iff_getElem.1 (List.mem_of_mem_take hx)
      have h3 := g5 i hi
      rw [List.getD_eq_getElem?_getD, List.getElem?_eq_getElem hi] at h3
      simp only [Option.getD_some, e] at h3
      have h4 := St.short_le h3.1
      have h5 := St.short_le h3.2.1
      have h7 := St.short_le h3.2.2
      unfold St.cbytes
      rw [List.length_append, List.length_append]
      omega)
    have h6 : (cs.take k).length ≤ 2000 := by have := HM.out.1; rw [List.length_take]; omega
    omega
  have hvm := l01_bytes m
  have hvo := St.short_le g3
  have HO3 : Hid (o.size ≤ 3000) := g3
  clear g4 g5 hV hBY g3 hn9 hm9
  have R := (HC.out _ HB1.out).1
  have q0 := blk_cell R 0
  simp only [List.getElem?_toArray, List.getElem?_cons_zero] at q0
  clear R
  go_wp2_with fail
  refine (CV.out _ n (by omega)).mono ?_
  rintro e w2 ⟨rfl, hb2⟩
  have HB2 : Hid (Below W0.heap.size W0 w2) := HB1.out.trans (hb2.mono HB1.out.size)
  clear hb2 HB1 q0
  go_wp2
  go_loopw [4, 5] (fun s i wr => ∃ k : Nat, i = .int .i64 (k : Int) ∧ k ≤ n ∧ Hid (s = .string ⟨(Pl.vb 8 n ++ (vs.take k).flatMap St.vbytes).toArray⟩) ∧ Hid (Below W0.heap.size W0 wr)) (fun _ i _ => n - (intOf i).toNat)
  case atStart => exact ⟨0, rfl, by omega, by show _ = _; simp, HB2.out⟩
  case round =>
    clear HB2
    obtain ⟨k, rfl, hk, HSV, HB⟩ := hrel
    obtain ⟨R, hbw⟩ := HC.out _ HB.out
    have q0 := blk_cell R 0
    have q1 := blk_cell R 1
    have q2 := blk_cell R 2
    simp only [List.getElem?_toArray, List.getElem?_cons_zero, List.getElem?_cons_succ] at q0 q1 q2
    clear R
    by_cases hlt : k < n
    · have d0 : decide ((k : Int) < (n : Int)) = true := decide_eq_true (by omega)
      have hk1 : (k : Int) < (n : Int) := by omega
      obtain ⟨b, p, rfl, -, c0, c1⟩ := (HT.out _ hbw).1.row HM.out.2.symm hlt
      obtain ⟨z8, z40⟩ := HG.out k hlt
      have HNX : Hid (Pl.vb 8 n ++ (vs.take (k + 1)).flatMap St.vbytes = (Pl.vb 8 n ++ (vs.take k).flatMap St.vbytes) ++ (Cd.short (vs.getD k Vr.no).name ++ Cd.short (vs.getD k Vr.no).val)) := by
        show _ = _
        rw [Cd.take_flat St.vbytes vs Vr.no k (by rw [← HM.out.2]; exact hlt), List.append_assoc]
        rfl
      have CN : Hid (∀ W, Calls Tryz.prog 68 #[.string (vs.getD k Vr.no).name] W fun e w' => e = .returned (.string ⟨(Cd.short (vs.getD k Vr.no).name).toArray⟩) ∧ Below W.heap.size W w') := fun W => CS.out W _ (by omega)
      have CX : Hid (∀ W, Calls Tryz.prog 68 #[.string (vs.getD k Vr.no).val] W fun e w' => e = .returned (.string ⟨(Cd.short (vs.getD k Vr.no).val).toArray⟩) ∧ Below W.heap.size W w') := fun W => CS.out W _ (by omega)
      have hSl := HLB.out k
      have hAl := St.short_le z8
      have hBl := St.short_le z40
      generalize Pl.vb 8 n ++ (vs.take k).flatMap St.vbytes = S at *
      obtain rfl := HSV.out
      generalize Cd.short (vs.getD k Vr.no).name = A at *
      generalize Cd.short (vs.getD k Vr.no).val = B at *
      generalize (vs.getD k Vr.no).name = nm at *
      generalize (vs.getD k Vr.no).val = vl at *
      have HCAT : Hid ((⟨S.toArray⟩ ++ ⟨A.toArray⟩ ++ ⟨B.toArray⟩ : ByteArray) = ⟨(S ++ (A ++ B)).toArray⟩) := by show _ = _; rw [cat_list, cat_list, List.append_assoc]
      have z1 : ¬ 9223372036854775807 < S.length + A.length := by omega
      have z2 : ¬ 9223372036854775807 < S.length + A.length + B.length := by omega
      have HBD : Hid (Below W0.heap.size W0 wr.drew) := HB.out.drew
      clear HSV hbw z8 z40 q1 q2 HB
      go_wp2_with fail
      go_region_held3 (fun W => W.cell? ⟨w.heap.size, 0, none⟩ = some (.slice (some ⟨b, p, none⟩) n tc) ∧ W.cell? ⟨b, p + k * 2, none⟩ = some (.string nm) ∧ W.cell? ⟨b, p + k * 2 + 1, none⟩ = some (.string vl) ∧ Hid (Below W0.heap.size W0 W)) (first | exact keepX3 hb3 (keepX3 hb2 (by assumption)) | exact keepX3 hb3 (by assumption) | exact keepX3 hb2 (by assumption) | exact ⟨q0, c0, c1, HBD.out⟩ | assumption) (first | (go_at_call_of 68 (Value.string nm); refine (CN.out _).mono ?_; rintro e a2 ⟨rfl, hb2⟩) | (go_at_call_of 68 (Value.string vl); refine (CX.out _).mono ?_; rintro e a3 ⟨rfl, hb3⟩))
      all_goals
        have hbf : Hid (Below W0.heap.size W0 a3) := HBD.out.trans ((hb2.trans (hb3.mono hb2.size)).mono HBD.out.size)
        clear hb2 hb3 HBD CN CX q0 c0 c1
        go_wp2
        go_roundw
        case rel => exact ⟨k + 1, by go_num, by omega, by show _ = _; rw [HNX.out, ← HCAT.out], hbf.out⟩
        case measure => simp [intOf]; omega
    · have HKK : Hid (k = n) := (by omega : k = n)
      have d0 : decide ((k : Int) < (n : Int)) = false := decide_eq_false (by omega)
      obtain ⟨S, hS⟩ : ∃ S, S = Pl.vb 8 n ++ vs.flatMap St.vbytes := ⟨_, rfl⟩
      have HS2 : Hid (Pl.vb 8 n ++ (vs.take k).flatMap St.vbytes = S) := by show _ = _; rw [hS, HKK.out, HM.out.2, List.take_length]
      have hSl := HLB.out k
      rw [HS2.out] at HSV hSl
      obtain rfl := HSV.out
      have HBY2 : Hid (BY = S ++ Pl.vb 8 m ++ cs.flatMap St.cbytes ++ Cd.short o) := by show _ = _; rw [hS]; exact HBY.out
      clear hS HSV HS2 HBY hbw
      have HCAT : Hid ((⟨S.toArray⟩ ++ ⟨(Pl.vb 8 m).toArray⟩ : ByteArray) = ⟨(S ++ Pl.vb 8 m).toArray⟩) := cat_list _ _
      go_wp2_with fail
      refine (CV.out _ m g2).mono ?_
      rintro e w3 ⟨rfl, hb3⟩
      have HB3 : Hid (Below W0.heap.size W0 w3) := HB.out.trans (hb3.mono HB.out.size)
      obtain ⟨P, hP⟩ : ∃ P, P = S ++ Pl.vb 8 m := ⟨_, rfl⟩
      have hPl : P.length ≤ 5100 := by rw [hP, List.length_append]; omega
      rw [← hP] at HCAT HBY2
      clear hb3 HB hP q0 q1 q2
      go_wp2
      go_loopw [4, 6] (fun s i wr => ∃ k : Nat, i = .int .i64 (k : Int) ∧ k ≤ m ∧ Hid (s = .string ⟨(P ++ (cs.take k).flatMap St.cbytes).toArray⟩) ∧ Hid (Below W0.heap.size W0 wr)) (fun _ i _ => m - (intOf i).toNat)
      case atStart => exact ⟨0, rfl, by omega, by show _ = _; rw [HCAT.out]; simp, HB3.out⟩
      case round =>
        clear HB3 HCAT
        obtain ⟨k2, rfl, hk2, HSV, HB⟩ := hrel
        obtain ⟨R, hbw⟩ := HC.out _ HB.out
        have q1 := blk_cell R 1
        have q2 := blk_cell R 2
        simp only [List.getElem?_toArray, List.getElem?_cons_zero, List.getElem?_cons_succ] at q1 q2
        clear R
        by_cases hlt2 : k2 < m
        · have e0 : decide ((k2 : Int) < (m : Int)) = true := decide_eq_true (by omega)
          have hk3 : (k2 : Int) < (m : Int) := by omega
          obtain ⟨b, p, rfl, -, c0, c1, c2⟩ := (HT.out _ hbw).2.row HM.out.1.symm hlt2
          obtain ⟨z8, z40, z41⟩ := HI.out k2 hlt2
          have HNX : Hid (P ++ (cs.take (k2 + 1)).flatMap St.cbytes = (P ++ (cs.take k2).flatMap St.cbytes) ++ (Cd.short (cs.getD k2 Cl.no).name ++ (Cd.short (cs.getD k2 Cl.no).key ++ Cd.short (cs.getD k2 Cl.no).val))) := by
            show _ = _
            rw [Cd.take_flat St.cbytes cs Cl.no k2 (by rw [← HM.out.1]; exact hlt2), List.append_assoc]
            rfl
          have CN : Hid (∀ W, Calls Tryz.prog 68 #[.string (cs.getD k2 Cl.no).name] W fun e w' => e = .returned (.string ⟨(Cd.short (cs.getD k2 Cl.no).name).toArray⟩) ∧ Below W.heap.size W w') := fun W => CS.out W _ (by omega)
          have CK : Hid (∀ W, Calls Tryz.prog 68 #[.string (cs.getD k2 Cl.no).key] W fun e w' => e = .returned (.string ⟨(Cd.short (cs.getD k2 Cl.no).key).toArray⟩) ∧ Below W.heap.size W w') := fun W => CS.out W _ (by omega)
          have CX : Hid (∀ W, Calls Tryz.prog 68 #[.string (cs.getD k2 Cl.no).val] W fun e w' => e = .returned (.string ⟨(Cd.short (cs.getD k2 Cl.no).val).toArray⟩) ∧ Below W.heap.size W w') := fun W => CS.out W _ (by omega)
          have hSl2 : (P ++ (cs.take k2).flatMap St.cbytes).length ≤ 260000 := by have := HTB.out k2; rw [List.length_append]; omega
          have hAl := St.short_le z8
          have hKl := St.short_le z40
          have hBl := St.short_le z41
          generalize P ++ (cs.take k2).flatMap St.cbytes = S2 at *
          obtain rfl := HSV.out
          generalize Cd.short (cs.getD k2 Cl.no).name = A at *
          generalize Cd.short (cs.getD k2 Cl.no).key = K at *
          generalize Cd.short (cs.getD k2 Cl.no).val = B at *
          generalize (cs.getD k2 Cl.no).name = nm at *
          generalize (cs.getD k2 Cl.no).key = ky at *
          generalize (cs.getD k2 Cl.no).val = vl at *
          have HCAT : Hid ((⟨S2.toArray⟩ ++ ⟨A.toArray⟩ ++ ⟨K.toArray⟩ ++ ⟨B.toArray⟩ : ByteArray) = ⟨(S2 ++ (A ++ (K ++ B))).toArray⟩) := by show _ = _; rw [cat_list, cat_list, cat_list]; simp only [List.append_assoc]
          have z1 : ¬ 9223372036854775807 < S2.length + A.length := by omega
          have z2 : ¬ 9223372036854775807 < S2.length + A.length + K.length := by omega
          have z3 : ¬ 9223372036854775807 < S2.length + A.length + K.length + B.length := by omega
          have HBD : Hid (Below W0.heap.size W0 wr.drew) := HB.out.drew
          clear HSV hbw z8 z40 z41 q2 HB
          go_wp2_with fail
          go_region_held3 (fun W => W.cell? ⟨w.heap.size, 1, none⟩ = some (.slice (some ⟨b, p, none⟩) m lc) ∧ W.cell? ⟨b, p + k2 * 3, none⟩ = some (.string nm) ∧ W.cell? ⟨b, p + k2 * 3 + 1, none⟩ = some (.string ky) ∧ W.cell? ⟨b, p + k2 * 3 + 2, none⟩ = some (.string vl) ∧ Hid (Below W0.heap.size W0 W)) (first | exact keepX4 hb3 (by assumption) | exact keepX4 hb2 (by assumption) | exact keepX4 hb4 (by assumption) | exact ⟨q1, c0, c1, c2, HBD.out⟩ | assumption) (first | (go_at_call_of 68 (Value.string nm); refine (CN.out _).mono ?_; rintro e a2 ⟨rfl, hb2⟩) | (go_at_call_of 68 (Value.string vl); refine (CX.out _).mono ?_; rintro e a3 ⟨rfl, hb3⟩) | (go_at_call_of 68 (Value.string ky); refine (CK.out _).mono ?_; rintro e a4 ⟨rfl, hb4⟩))
          all_goals
            have hbf : Hid (Below W0.heap.size W0 a3) := HBD.out.trans ((hb2.trans ((hb4.trans (hb3.mono hb4.size)).mono hb2.size)).mono HBD.out.size)
            clear hb2 hb3 hb4 HBD CN CX CK q1 c0 c1 c2
            go_wp2
            go_roundw
            case rel => exact ⟨k2 + 1, by go_num, by omega, by show _ = _; rw [HNX.out, ← HCAT.out], hbf.out⟩
            case measure => simp [intOf]; omega
        · have HKK2 : Hid (k2 = m) := (by omega : k2 = m)
          have e0 : decide ((k2 : Int) < (m : Int)) = false := decide_eq_false (by omega)
          obtain ⟨S2, hS2⟩ : ∃ S2, S2 = P ++ cs.flatMap St.cbytes := ⟨_, rfl⟩
          have HS3 : Hid (P ++ (cs.take k2).flatMap St.cbytes = S2) := by show _ = _; rw [hS2, HKK2.out, HM.out.1, List.take_length]
          have hS2l : (P ++ (cs.take k2).flatMap St.cbytes).length ≤ 260000 := by have := HTB.out k2; rw [List.length_append]; omega
          rw [HS3.out] at HSV hS2l
          obtain rfl := HSV.out
          have HBY3 : Hid ((⟨S2.toArray⟩ ++ ⟨(Cd.short o).toArray⟩ : ByteArray) = ⟨BY.toArray⟩) := by
            show _ = _
            rw [cat_list, HBY2.out, hS2]
          clear hS2 HSV HS3 HBY2
          have CL : Hid (∀ W, Calls Tryz.prog 68 #[.string o] W fun e w' => e = .returned (.string ⟨(Cd.short o).toArray⟩) ∧ Below W.heap.size W w') := fun W => CS.out W o HO3.out
          generalize Cd.short o = VL at *
          have HE : Hid (∀ W, Hid (Below W0.heap.size W0 W) → Below w.heap.size w W) := fun W hb => (HC.out _ hb.out).2
          clear HC HT hbw CV CS
          go_wp2_with fail
          refine (CL.out _).mono ?_
          rintro e w4 ⟨rfl, hb4⟩
          have HB4 : Hid (Below W0.heap.size W0 w4) := HB.out.trans (hb4.mono HB.out.size)
          clear hb4 HB q1 q2 CL
          go_wp2
          go_ret2
          exact ⟨by rw [HF.out, ← HBY3.out]; rfl, HE.out _ HB4⟩
end PartStX
section PartJbB
open Go.RowKit

set_option maxHeartbeats 4000000 in
set_option maxRecDepth 100000 in
theorem spJobOk (tv lv u x nv mv : Value) (j : Jb) (w : World) (h : Jb.At w tv lv u x nv mv j) (hs : Jb.Sm j) :
    Calls Tryz.prog 6 #[.agg (Jb.cells tv lv u x nv mv j)] w fun e w' => e = .returned (.bool j.ok) ∧ Below w.heap.size w w' := by
  have HA : Hid (∀ W, Below w.heap.size w W → Jb.At W tv lv u x nv mv j) := fun W hb => h.keep hb
  have HS : Hid (Jb.Sm j) := hs
  have CC : Hid (∀ W, Below w.heap.size w W → Calls Tryz.prog 18 #[.agg #[tv, lv, .int .i64 j.bg, .int .i64 j.ln, .int .i64 j.en]] W fun e w' => e = .returned (.bool (Cd.ok j.ts j.xs j.bg j.ln j.en)) ∧ Below W.heap.size W w') := fun W hb => spCodeOk tv lv j.bg j.ln j.en j.ts j.xs W (h.t.keep hb) (h.l.keep hb) hs.t hs.tl hs.xl
  have CT : Hid (∀ W, Below w.heap.size w W → Calls Tryz.prog 19 #[.agg #[u, x, .string j.o]] W fun e w' => e = .returned (.bool (St.ok j.vs j.cs j.o)) ∧ Below W.heap.size W w') := fun W hb => spStoreOk u x j.o j.vs j.cs W (h.u.keep hb) (h.x.keep hb) hs.s
  obtain ⟨A, hA⟩ : ∃ A, A = Cd.ok j.ts j.xs j.bg j.ln j.en := ⟨_, rfl⟩
  obtain ⟨B, hB⟩ : ∃ B, B = St.ok j.vs j.cs j.o := ⟨_, rfl⟩
  have HOK : Hid ((∀ i, i < j.ns.length → j.okN i = true) → (∀ i, i < j.ls.length → j.okL i = true) → j.ok = (A && (B && (decide (j.ns.length ≤ 20) && decide (j.ls.length ≤ 20))))) := by
    rw [hA, hB]
    exact Jb.ok_rest
  rw [← hA] at CC
  rw [← hB] at CT
  clear hA hB
  obtain ⟨na, nc, rfl, -⟩ := h.n
  obtain ⟨ma, mc, rfl, -⟩ := h.m
  obtain ⟨ta, tc, rfl, -⟩ := h.t
  obtain ⟨la, lc, rfl, -⟩ := h.l
  obtain ⟨ua, uc, rfl, -⟩ := h.u
  obtain ⟨xa, xc, rfl, -⟩ := h.x
  obtain ⟨n, hn⟩ : ∃ n, n = j.ns.length := ⟨_, rfl⟩
  obtain ⟨m, hm⟩ : ∃ m, m = j.ls.length := ⟨_, rfl⟩
  have HN : Hid (n = j.ns.length ∧ m = j.ls.length) := ⟨hn, hm⟩
  have hn9 : n ≤ 1048576 := by rw [hn]; exact hs.nl
  have hm9 : m ≤ 1048576 := by rw [hm]; exact hs.ml
  rw [← hn, ← hm] at HOK
  unfold Jb.cells
  rw [← hn, ← hm]
  obtain ⟨V, hV⟩ : ∃ V, V = j.ok := ⟨_, rfl⟩
  have HV : Hid (V = j.ok) := hV
  rw [← hV]
  clear hn hm h hs hV
  obtain ⟨CL, hCL⟩ : ∃ CL : Array Value, CL = #[.slice ta j.ts.length tc, .slice la j.xs.length lc, .int .i64 j.bg, .int .i64 j.ln, .int .i64 j.en, .slice ua j.vs.length uc, .slice xa j.cs.length xc, .string j.o, .slice na n nc, .slice ma m mc] := ⟨_, rfl⟩
  have HB0 : Hid (Below w.heap.size w (w.alloc (.cells CL 42))) := (Below.refl _ _).alloc (Nat.le_refl _) _
  have HR0 : Hid ((w.alloc (.cells CL 42)).heap[w.heap.size]? = some (.cells CL 42 (0, 0))) := heap_alloc_new _ _
  have hz : w.heap.size < (w.alloc (.cells CL 42)).heap.size := by simp
  rw [hCL] at HB0 HR0 hz
  clear hCL CL
  generalize j.ts.length = tn at *
  generalize j.xs.length = xn at *
  generalize j.vs.length = vn at *
  generalize j.cs.length = cn at *
  generalize j.bg = bg at *
  generalize j.ln = ln at *
  generalize j.en = en at *
  generalize j.o = o at *
  go_enter Tryz.func6, Tryz.ntmps6
  go_wp2_with fail
  generalize w.alloc (.cells #[.slice ta tn tc, .slice la xn lc, .int .i64 bg, .int .i64 ln, .int .i64 en, .slice ua vn uc, .slice xa cn xc, .string o, .slice na n nc, .slice ma m mc] 42) = W0 at *
  have HQ : Hid (∀ W, Below W0.heap.size W0 W → W.heap[w.heap.size]? = some (.cells #[.slice ta tn tc, .slice la xn lc, .int .i64 bg, .int .i64 ln, .int .i64 en, .slice ua vn uc, .slice xa cn xc, .string o, .slice na n nc, .slice ma m mc] 42 (0, 0)) ∧ Below w.heap.size w W) := fun W hb => ⟨(hb.block _ hz).trans HR0.out, HB0.out.trans (hb.mono HB0.out.size)⟩
  clear HR0 HB0 hz
  have HCS : Hid (∀ W, Below W0.heap.size W0 W → (W.cell? ⟨w.heap.size, 0, none⟩ = some (.slice ta tn tc) ∧ W.cell? ⟨w.heap.size, 1, none⟩ = some (.slice la xn lc) ∧ W.cell? ⟨w.heap.size, 2, none⟩ = some (.int .i64 bg) ∧ W.cell? ⟨w.heap.size, 3, none⟩ = some (.int .i64 ln) ∧ W.cell? ⟨w.heap.size, 4, none⟩ = some (.int .i64 en)) ∧ (W.cell? ⟨w.heap.size, 5, none⟩ = some (.slice ua vn uc) ∧ W.cell? ⟨w.heap.size, 6, none⟩ = some (.slice xa cn xc) ∧ W.cell? ⟨w.heap.size, 7, none⟩ = some (.string o)) ∧ W.cell? ⟨w.heap.size, 8, none⟩ = some (.slice na n nc) ∧ W.cell? ⟨w.heap.size, 9, none⟩ = some (.slice ma m mc)) := fun W hb => by
    have R := (HQ.out W hb).1
    exact ⟨⟨(blk_cell R 0).trans rfl, (blk_cell R 1).trans rfl, (blk_cell R 2).trans rfl, (blk_cell R 3).trans rfl, (blk_cell R 4).trans rfl⟩, ⟨(blk_cell R 5).trans rfl, (blk_cell R 6).trans rfl, (blk_cell R 7).trans rfl⟩, (blk_cell R 8).trans rfl, (blk_cell R 9).trans rfl⟩
  go_loopw [3] (fun i wr => ∃ k : Nat, i = .int .i64 (k : Int) ∧ k ≤ n ∧ Hid (Below W0.heap.size W0 wr) ∧ Hid (∀ q, q < k → j.okN q = true)) (fun i _ => n - (intOf i).toNat)
  case atStart => exact ⟨0, rfl, by omega, Below.refl _ _, fun q hq => by omega⟩
  case round =>
    obtain ⟨k, rfl, hk, HW, HJ⟩ := hrel
    obtain ⟨-, -, q8, -⟩ := HCS.out _ HW.out
    by_cases hlt : k < n
    · have d0 : decide ((k : Int) < (n : Int)) = true := decide_eq_true (by omega)
      have hk1 : (k : Int) < (n : Int) := by omega
      have hat := (HA.out _ (HQ.out _ HW.out).2).n
      rw [← HN.out.1] at hat
      obtain ⟨b, p, rfl, c0⟩ := TsAt.cell hat HN.out.1 hlt
      have hsz := HS.out.n k (by rw [← HN.out.1]; exact hlt)
      obtain ⟨Y, hY⟩ : ∃ Y, Y = j.okN k := ⟨_, rfl⟩
      have HY := hY
      have HYH : Hid (Y = j.okN k) := hY
      unfold Jb.okN at hY
      have CNm : Hid (∀ W, Calls Tryz.prog 17 #[.string (j.ns.getD k ByteArray.empty)] W fun e w' => e = .returned (.bool Y) ∧ w' = W) := fun W => by rw [hY]; exact spNm _ W hsz
      generalize j.ns.getD k ByteArray.empty = t at *
      clear hat hsz hY HY
      cases Y with
      | false =>
        have HF : Hid (V = false) := by show _ = _; rw [HV.out]; exact Jb.ok_noN (by rw [← HN.out.1]; exact hlt) HYH.out.symm
        go_wp2_with (go_at_call 17; refine (CNm.out _).mono ?_; rintro e w2 ⟨rfl, rfl⟩)
        go_ret
        exact ⟨by rw [HF.out]; rfl, (HQ.out _ HW.out).2⟩
      | true =>
        have HJ2 : Hid (∀ q, q < k + 1 → j.okN q = true) := fun q hq => by
          by_cases e : q = k
          · rw [e]; exact HYH.out.symm
          · exact HJ.out q (by omega)
        go_wp2_with (go_at_call 17; refine (CNm.out _).mono ?_; rintro e w2 ⟨rfl, rfl⟩)
        go_roundw
        case rel => exact ⟨k + 1, by go_num, by omega, HW.out, HJ2.out⟩
        case measure => simp [intOf]; omega
    · have d0 : decide ((k : Int) < (n : Int)) = false := decide_eq_false (by omega)
      have HJN : Hid (∀ q, q < n → j.okN q = true) := fun q hq => HJ.out q (by omega)
      clear HJ
      go_wp2_with fail
      clear q8
      obtain ⟨W1, hW1⟩ : ∃ W1, W1 = wr := ⟨_, rfl⟩
      subst hW1
      go_loopw [4] (fun i wr => ∃ k : Nat, i = .int .i64 (k : Int) ∧ k ≤ m ∧ Hid (Below W0.heap.size W0 wr) ∧ Hid (∀ q, q < k → j.okL q = true)) (fun i _ => m - (intOf i).toNat)
      case atStart => exact ⟨0, rfl, by omega, HW.out, fun q hq => by omega⟩
      case round =>
        clear HW
        obtain ⟨k2, rfl, hk2, HW, HJ⟩ := hrel
        obtain ⟨-, -, -, q9⟩ := HCS.out _ HW.out
        by_cases hlt2 : k2 < m
        · have d1 : decide ((k2 : Int) < (m : Int)) = true := decide_eq_true (by omega)
          have hk3 : (k2 : Int) < (m : Int) := by omega
          have hat := (HA.out _ (HQ.out _ HW.out).2).m
          rw [← HN.out.2] at hat
          obtain ⟨b, p, rfl, c0⟩ := TsAt.cell hat HN.out.2 hlt2
          have HYH : Hid (j.okL k2 = decide ((j.ls.getD k2 ByteArray.empty).size ≤ 200)) := rfl
          generalize j.ls.getD k2 ByteArray.empty = t at *
          clear hat
          by_cases h200 : t.size ≤ 200
          · have d2 : decide ((200 : Int) < (t.size : Int)) = false := decide_eq_false (by omega)
            have HJ2 : Hid (∀ q, q < k2 + 1 → j.okL q = true) := fun q hq => by
              by_cases e : q = k2
              · rw [e, HYH.out]; exact decide_eq_true h200
              · exact HJ.out q (by omega)
            go_wp2_with fail
            go_roundw
            case rel => exact ⟨k2 + 1, by go_num, by omega, HW.out, HJ2.out⟩
            case measure => simp [intOf]; omega
          · have d2 : decide ((200 : Int) < (t.size : Int)) = true := decide_eq_true (by omega)
            have HF : Hid (V = false) := by show _ = _; rw [HV.out]; exact Jb.ok_noL (by rw [← HN.out.2]; exact hlt2) (by rw [HYH.out]; exact decide_eq_false h200)
            go_wp2_with fail
            go_ret
            exact ⟨by rw [HF.out]; rfl, (HQ.out _ HW.out).2⟩
        · have d1 : decide ((k2 : Int) < (m : Int)) = false := decide_eq_false (by omega)
          have HVE : Hid (V = (A && (B && (decide (n ≤ 20) && decide (m ≤ 20))))) := by
            show _ = _
            rw [HV.out]
            exact HOK.out (fun q hq => HJN.out q hq) (fun q hq => HJ.out q (by omega))
          obtain ⟨⟨z0, z1, z2, z3, z4⟩, -⟩ := HCS.out _ HW.out
          have CC1 := hidOfJ (CC.out _ (HQ.out _ HW.out).2)
          clear HJ HJN HOK HV CC HA HS HN
          go_wp2_with fail
          refine CC1.out.mono ?_
          rintro e w3 ⟨rfl, hb3⟩
          have HW3 : Hid (Below W0.heap.size W0 w3) := HW.out.trans (hb3.mono HW.out.size)
          clear hb3 z0 z1 z2 z3 z4 q9 CC1
          obtain ⟨-, ⟨z5, z6, z7⟩, z8, z9⟩ := HCS.out _ HW3.out
          have CT1 := hidOfJ (CT.out _ (HQ.out _ HW3.out).2)
          cases A with
          | false =>
            clear CT CT1
            go_wp2_with fail
            go_ret
            exact ⟨by rw [HVE.out]; rfl, (HQ.out _ HW3.out).2⟩
          | true =>
            go_wp2_with fail
            refine CT1.out.mono ?_
            rintro e w4 ⟨rfl, hb4⟩
            have HW4 : Hid (Below W0.heap.size W0 w4) := HW3.out.trans (hb4.mono HW3.out.size)
            clear hb4 z5 z6 z7 z8 z9 CT1 CT
            obtain ⟨-, -, z8, z9⟩ := HCS.out _ HW4.out
            have e1 : decide ((n : Int) ≤ 20) = decide (n ≤ 20) := by rw [Bool.eq_iff_iff]; simp; omega
            have e2 : decide ((m : Int) ≤ 20) = decide (m ≤ 20) := by rw [Bool.eq_iff_iff]; simp; omega
            generalize decide (n ≤ 20) = D1 at *
            generalize decide (m ≤ 20) = D2 at *
            cases B <;> cases D1 <;> cases D2
            all_goals
              go_wp2_with fail
              go_ret
              exact ⟨by rw [HVE.out]; rfl, (HQ.out _ HW4.out).2⟩
end PartJbB
section PartJbC
open Go.RowKit

namespace Jb
/-- The bytes of a job. -/
def bytes (j : Jb) : List UInt8 := Cd.short ⟨(Cd.bytes j.ts j.xs j.ln j.en).toArray⟩ ++ Cd.short ⟨(St.bytes j.vs j.cs j.o).toArray⟩ ++ Pl.vb 8 j.ns.length ++ j.ns.flatMap Cd.short ++ Pl.vb 8 j.ls.length ++ j.ls.flatMap Cd.short
/-- What JobText answers. -/
def text? (j : Jb) : Value := if j.ok = true then .tuple #[.string ⟨(bytes j).toArray⟩, .bool true] else .tuple #[.string ⟨#[]⟩, .bool false]
/-- What a right job holds. -/
theorem ok_sizes {j : Jb} (h : j.ok = true) : Cd.ok j.ts j.xs j.bg j.ln j.en = true ∧ St.ok j.vs j.cs j.o = true ∧ j.ns.length ≤ 20 ∧ j.ls.length ≤ 20 ∧ (∀ i, i < j.ns.length → (j.ns.getD i ByteArray.empty).size ≤ 8) ∧ (∀ i, i < j.ls.length → (j.ls.getD i ByteArray.empty).size ≤ 200) := by
  unfold ok at h
  simp only [Bool.and_eq_true, decide_eq_true_eq, List.all_eq_true, List.mem_range] at h
  obtain ⟨h1, h2, h3, h4, h5, h6⟩ := h
  exact ⟨h3, h4, h5, h6, fun i hi => St.nm_le8 (h1 i hi), fun i hi => of_decide_eq_true (h2 i hi)⟩
theorem code_len {ts : List ByteArray} {xs : List Ins} {bg ln en : Int} (h : Cd.ok ts xs bg ln en = true) : (Cd.bytes ts xs ln en).length ≤ 4000 := by
  obtain ⟨g1, g2, g3, -, g5, g6, -, -, -⟩ := Cd.ok_facts h
  have a1 := l01_bytes ts.length
  have a2 := l01_bytes xs.length
  have a3 := l01_bytes ln.toNat
  have a4 := l01_bytes en.toNat
  have b1 := Cd.flat_le Cd.short 39 ts (fun y hy => by
    obtain ⟨i, hi, e⟩ := List.mem_iff_getElem.1 hy
    have h3 := g1 i hi
    rw [List.getD_eq_getElem?_getD, List.getElem?_eq_getElem hi] at h3
    simp only [Option.getD_some, e] at h3
    exact St.short_le h3)
  have b2 := Cd.flat_le Cd.two 2 xs (fun y _ => by simp [Cd.two])
  unfold Cd.bytes
  simp only [List.length_append]
  omega
theorem store_len {vs : List Vr} {cs : List Cl} {o : ByteArray} (h : St.ok vs cs o = true) : (St.bytes vs cs o).length ≤ 260000 := by
  obtain ⟨g1, g2, g3, g4, g5⟩ := St.ok_sizes h
  have a1 := l01_bytes vs.length
  have a2 := l01_bytes cs.length
  have a3 := St.short_le g3
  have b1 := Cd.flat_le St.vbytes 66 vs (fun y hy => by
    obtain ⟨i, hi, e⟩ := List.mem_iff_getElem.1 hy
    have h3 := g4 i hi
    rw [List.getD_eq_getElem?_getD, List.getElem?_eq_getElem hi] at h3
    simp only [Option.getD_some, e] at h3
    have h4 := St.short_le h3.1
    have h5 := St.short_le h3.2
    unfold St.vbytes
    rw [List.length_append]
    omega)
  have b2 := Cd.flat_le St.cbytes 115 cs (fun y hy => by
    obtain ⟨i, hi, e⟩ := List.mem_iff_getElem.1 hy
    have h3 := g5 i hi
    rw [List.getD_eq_getElem?_getD, List.getElem?_eq_getElem hi] at h3
    simp only [Option.getD_some, e] at h3
    have h4 := St.short_le h3.1
    have h5 := St.short_le h3.2.1
    have h7 := St.short_le h3.2.2
    unfold St.cbytes
    rw [List.length_append, List.length_append]
    omega)
  unfold St.bytes
  simp only [List.length_append]
  omega
theorem flat_short {l : List ByteArray} {m k : Nat} (h : ∀ i, i < l.length → (l.getD i ByteArray.empty).size ≤ m) (hl : l.length ≤ 20) : ((l.take k).flatMap Cd.short).length ≤ (m + 9) * 20 := by
  have h2 := Cd.flat_le Cd.short (m + 9) (l.take k) (fun y hy => by
    obtain ⟨i, hi, e⟩ := List.mem_iff_getElem.1 (List.mem_of_mem_take hy)
    have h3 := h i hi
    rw [List.getD_eq_getElem?_getD, List.getElem?_eq_getElem hi] at h3
    simp only [Option.getD_some, e] at h3
    exact St.short_le h3)
  have h6 : (l.take k).length ≤ 20 := by rw [List.length_take]; omega
  have h7 := Nat.mul_le_mul_left (m + 9) h6
  omega
end Jb

set_option maxHeartbeats 1000000 in
set_option maxRecDepth 100000 in
theorem spShort7b (s : ByteArray) (w : World) (hs : s.size ≤ 1048576) :
    Calls Tryz.prog 68 #[.string s] w fun e w' => e = .returned (.string ⟨(Cd.short s).toArray⟩) ∧ Below w.heap.size w w' := by
  have C : Hid (∀ W, Calls Tryz.prog 69 #[.int .i64 (s.size : Int)] W fun e w' => e = .returned (.string ⟨(Pl.vb 8 s.size).toArray⟩) ∧ Below W.heap.size W w') := fun W => l01Var_any s.size W (by omega)
  have hv := l01_bytes s.size
  have HS : Hid ((⟨(Pl.vb 8 s.size).toArray⟩ ++ s : ByteArray) = ⟨(Cd.short s).toArray⟩) := cat_list _ _
  generalize Pl.vb 8 s.size = V at *
  go_enter Tryz.func68, Tryz.ntmps68
  go_wp2_with (go_at_call 69; refine (C.out _).mono ?_; rintro e w2 ⟨rfl, hb2⟩)
  go_ret
  exact ⟨by rw [← HS.out]; rfl, hb2⟩
theorem keepJ1 {w W W' : World} {p0 : Addr} {u0 : Value} (hb : Below W.heap.size W W') (h : W.cell? p0 = some u0 ∧ Hid (Below w.heap.size w W)) : W'.cell? p0 = some u0 ∧ Hid (Below w.heap.size w W') :=
  ⟨(hb.cell (World.block_lt_of_cell? _ _ h.1)).trans h.1, h.2.out.trans (hb.mono h.2.out.size)⟩

set_option maxHeartbeats 4000000 in
set_option maxRecDepth 100000 in
theorem spJobText (tv lv u x nv mv : Value) (j : Jb) (w : World) (h : Jb.At w tv lv u x nv mv j) (hs : Jb.Sm j) :
    Calls Tryz.prog 33 #[.agg (Jb.cells tv lv u x nv mv j)] w fun e w' => e = .returned j.text? ∧ Below w.heap.size w w' := by
  have HA : Hid (∀ W, Below w.heap.size w W → Jb.At W tv lv u x nv mv j) := fun W hb => h.keep hb
  obtain ⟨V, hV⟩ : ∃ V, V = j.ok := ⟨_, rfl⟩
  have CO : Hid (∀ W, Below w.heap.size w W → Calls Tryz.prog 6 #[.agg (Jb.cells tv lv u x nv mv j)] W fun e w' => e = .returned (.bool V) ∧ Below W.heap.size W w') := fun W hb => by rw [hV]; exact spJobOk tv lv u x nv mv j W (h.keep hb) hs
  have CC : Hid (∀ W, Below w.heap.size w W → Calls Tryz.prog 64 #[.agg #[tv, lv, .int .i64 j.bg, .int .i64 j.ln, .int .i64 j.en]] W fun e w' => e = .returned (Cd.text? j.ts j.xs j.bg j.ln j.en) ∧ Below W.heap.size W w') := fun W hb => spCodeText tv lv j.bg j.ln j.en j.ts j.xs W (h.t.keep hb) (h.l.keep hb) hs.t hs.tl hs.xl
  have CT : Hid (∀ W, Below w.heap.size w W → Calls Tryz.prog 66 #[.agg #[u, x, .string j.o]] W fun e w' => e = .returned (St.text? j.vs j.cs j.o) ∧ Below W.heap.size W w') := fun W hb => spStoreText u x j.o j.vs j.cs W (h.u.keep hb) (h.x.keep hb) hs.s
  obtain ⟨na, nc, rfl, -⟩ := h.n
  obtain ⟨ma, mc, rfl, -⟩ := h.m
  obtain ⟨ta, tc, rfl, -⟩ := h.t
  obtain ⟨la, lc, rfl, -⟩ := h.l
  obtain ⟨ua, uc, rfl, -⟩ := h.u
  obtain ⟨xa, xc, rfl, -⟩ := h.x
  have HF : Hid (j.text? = if V = true then .tuple #[.string ⟨(Jb.bytes j).toArray⟩, .bool true] else .tuple #[.string ⟨#[]⟩, .bool false]) := by rw [hV]; rfl
  have HOK : Hid (V = true → Cd.ok j.ts j.xs j.bg j.ln j.en = true ∧ St.ok j.vs j.cs j.o = true ∧ j.ns.length ≤ 20 ∧ j.ls.length ≤ 20 ∧ (∀ i, i < j.ns.length → (j.ns.getD i ByteArray.empty).size ≤ 8) ∧ (∀ i, i < j.ls.length → (j.ls.getD i ByteArray.empty).size ≤ 200)) := fun e => Jb.ok_sizes (by rw [← hV, e])
  obtain ⟨n, hn⟩ : ∃ n, n = j.ns.length := ⟨_, rfl⟩
  obtain ⟨m, hm⟩ : ∃ m, m = j.ls.length := ⟨_, rfl⟩
  have HN : Hid (n = j.ns.length ∧ m = j.ls.length) := ⟨hn, hm⟩
  unfold Jb.cells at CO ⊢
  rw [← hn, ← hm] at CO ⊢
  clear hn hm h hs hV
  have hBYJ : Jb.bytes j = Cd.short ⟨(Cd.bytes j.ts j.xs j.ln j.en).toArray⟩ ++ Cd.short ⟨(St.bytes j.vs j.cs j.o).toArray⟩ ++ Pl.vb 8 n ++ j.ns.flatMap Cd.short ++ Pl.vb 8 m ++ j.ls.flatMap Cd.short := by rw [HN.out.1, HN.out.2]; rfl
  have HBJ := hidOfJ hBYJ
  clear hBYJ
  obtain ⟨CL, hCL⟩ : ∃ CL : Array Value, CL = #[.slice ta j.ts.length tc, .slice la j.xs.length lc, .int .i64 j.bg, .int .i64 j.ln, .int .i64 j.en, .slice ua j.vs.length uc, .slice xa j.cs.length xc, .string j.o, .slice na n nc, .slice ma m mc] := ⟨_, rfl⟩
  have HB0 : Hid (Below w.heap.size w (w.alloc (.cells CL 42))) := (Below.refl _ _).alloc (Nat.le_refl _) _
  have HR0 : Hid ((w.alloc (.cells CL 42)).heap[w.heap.size]? = some (.cells CL 42 (0, 0))) := heap_alloc_new _ _
  have hz : w.heap.size < (w.alloc (.cells CL 42)).heap.size := by simp
  rw [hCL] at HB0 HR0 hz
  clear hCL CL
  have HTX : Hid (V = true → ∃ a b : ByteArray, Cd.text? j.ts j.xs j.bg j.ln j.en = .tuple #[.string a, .bool true] ∧ St.text? j.vs j.cs j.o = .tuple #[.string b, .bool true] ∧ a.size ≤ 4000 ∧ b.size ≤ 260000 ∧ a = ⟨(Cd.bytes j.ts j.xs j.ln j.en).toArray⟩ ∧ b = ⟨(St.bytes j.vs j.cs j.o).toArray⟩) := fun e => by
    obtain ⟨e1, e2, -⟩ := HOK.out e
    refine ⟨_, _, by unfold Cd.text?; rw [e1]; rfl, by unfold St.text?; rw [e2]; rfl, ?_, ?_, rfl, rfl⟩
    · have := Jb.code_len e1; show (Cd.bytes j.ts j.xs j.ln j.en).toArray.size ≤ _; simpa using this
    · have := Jb.store_len e2; show (St.bytes j.vs j.cs j.o).toArray.size ≤ _; simpa using this
  obtain ⟨TX, hTX⟩ : ∃ TX, TX = Cd.text? j.ts j.xs j.bg j.ln j.en := ⟨_, rfl⟩
  obtain ⟨SX, hSX⟩ : ∃ SX, SX = St.text? j.vs j.cs j.o := ⟨_, rfl⟩
  rw [← hTX] at CC HTX
  rw [← hSX] at CT HTX
  clear hTX hSX
  generalize j.ts.length = tn at *
  generalize j.xs.length = xn at *
  generalize j.vs.length = vn at *
  generalize j.cs.length = cn at *
  obtain ⟨o, ho⟩ : ∃ o, o = j.o := ⟨_, rfl⟩
  obtain ⟨bg, hbg⟩ : ∃ bg, bg = j.bg := ⟨_, rfl⟩
  obtain ⟨ln, hln⟩ : ∃ ln, ln = j.ln := ⟨_, rfl⟩
  obtain ⟨en, hen⟩ : ∃ en, en = j.en := ⟨_, rfl⟩
  rw [← ho] at CT CO HB0 HR0 hz ⊢
  rw [← hbg, ← hln, ← hen] at CC CO HB0 HR0 hz ⊢
  clear ho hbg hln hen
  go_enter Tryz.func33, Tryz.ntmps33
  go_wp2_with fail
  generalize w.alloc (.cells #[.slice ta tn tc, .slice la xn lc, .int .i64 bg, .int .i64 ln, .int .i64 en, .slice ua vn uc, .slice xa cn xc, .string o, .slice na n nc, .slice ma m mc] 42) = W0 at *
  have HQ : Hid (∀ W, Below W0.heap.size W0 W → W.heap[w.heap.size]? = some (.cells #[.slice ta tn tc, .slice la xn lc, .int .i64 bg, .int .i64 ln, .int .i64 en, .slice ua vn uc, .slice xa cn xc, .string o, .slice na n nc, .slice ma m mc] 42 (0, 0)) ∧ Below w.heap.size w W) := fun W hb => ⟨(hb.block _ hz).trans HR0.out, HB0.out.trans (hb.mono HB0.out.size)⟩
  have HCS : Hid (∀ W, Below W0.heap.size W0 W → (W.cell? ⟨w.heap.size, 0, none⟩ = some (.slice ta tn tc) ∧ W.cell? ⟨w.heap.size, 1, none⟩ = some (.slice la xn lc) ∧ W.cell? ⟨w.heap.size, 2, none⟩ = some (.int .i64 bg) ∧ W.cell? ⟨w.heap.size, 3, none⟩ = some (.int .i64 ln) ∧ W.cell? ⟨w.heap.size, 4, none⟩ = some (.int .i64 en)) ∧ (W.cell? ⟨w.heap.size, 5, none⟩ = some (.slice ua vn uc) ∧ W.cell? ⟨w.heap.size, 6, none⟩ = some (.slice xa cn xc) ∧ W.cell? ⟨w.heap.size, 7, none⟩ = some (.string o)) ∧ W.cell? ⟨w.heap.size, 8, none⟩ = some (.slice na n nc) ∧ W.cell? ⟨w.heap.size, 9, none⟩ = some (.slice ma m mc)) := fun W hb => by
    have R := (HQ.out W hb).1
    exact ⟨⟨(blk_cell R 0).trans rfl, (blk_cell R 1).trans rfl, (blk_cell R 2).trans rfl, (blk_cell R 3).trans rfl, (blk_cell R 4).trans rfl⟩, ⟨(blk_cell R 5).trans rfl, (blk_cell R 6).trans rfl, (blk_cell R 7).trans rfl⟩, (blk_cell R 8).trans rfl, (blk_cell R 9).trans rfl⟩
  clear HR0 hz
  refine (CO.out _ HB0.out).mono ?_
  rintro e w1 ⟨rfl, hb1⟩
  have HW1 : Hid (Below W0.heap.size W0 w1) := hb1
  clear hb1 CO HB0
  cases V
  · go_wp2_with fail
    go_ret2
    exact ⟨by rw [HF.out]; rfl, (HQ.out _ HW1.out).2⟩
  obtain ⟨ca, sb, rfl, rfl, hca, hsb, hca2, hsb2⟩ := HTX.out rfl
  have HCAB := hidOfJ (And.intro hca2 hsb2)
  obtain ⟨-, -, hn20, hm20, hN8, hL200⟩ := HOK.out rfl
  rw [← HN.out.1] at hn20
  rw [← HN.out.2] at hm20
  have HN8 := hidOfJ hN8
  have HL2 := hidOfJ hL200
  clear HTX HOK hca2 hsb2 hN8 hL200
  obtain ⟨⟨z0, z1, z2, z3, z4⟩, -⟩ := HCS.out _ HW1.out
  go_wp2_with fail
  refine (CC.out _ (HQ.out _ HW1.out).2).mono ?_
  rintro e w2 ⟨rfl, hb2⟩
  have HW2 : Hid (Below W0.heap.size W0 w2) := HW1.out.trans (hb2.mono HW1.out.size)
  clear hb2 CC z0 z1 z2 z3 z4 HW1
  obtain ⟨-, ⟨z5, z6, z7⟩, -⟩ := HCS.out _ HW2.out
  go_wp2_with fail
  refine (CT.out _ (HQ.out _ HW2.out).2).mono ?_
  rintro e w3 ⟨rfl, hb3⟩
  have HW3 : Hid (Below W0.heap.size W0 w3) := HW2.out.trans (hb3.mono HW2.out.size)
  clear hb3 CT z5 z6 z7 HW2
  obtain ⟨-, -, q8, -⟩ := HCS.out _ HW3.out
  have CV : Hid (∀ (W : World) (k : Nat), k ≤ 20 → Calls Tryz.prog 69 #[.int .i64 (k : Int)] W fun e w' => e = .returned (.string ⟨(Pl.vb 8 k).toArray⟩) ∧ Below W.heap.size W w') := fun W k hk => l01Var_any k W (by omega)
  have CS : Hid (∀ (W : World) (t : ByteArray), t.size ≤ 1048576 → Calls Tryz.prog 68 #[.string t] W fun e w' => e = .returned (.string ⟨(Cd.short t).toArray⟩) ∧ Below W.heap.size W w') := fun W t ht => spShort7b t W ht
  have CA1 : Hid (∀ W, Calls Tryz.prog 68 #[.string ca] W fun e w' => e = .returned (.string ⟨(Cd.short ca).toArray⟩) ∧ Below W.heap.size W w') := fun W => CS.out W ca (by omega)
  have CB1 : Hid (∀ W, Calls Tryz.prog 68 #[.string sb] W fun e w' => e = .returned (.string ⟨(Cd.short sb).toArray⟩) ∧ Below W.heap.size W w') := fun W => CS.out W sb (by omega)
  have CV1 : Hid (∀ W, Calls Tryz.prog 69 #[.int .i64 (n : Int)] W fun e w' => e = .returned (.string ⟨(Pl.vb 8 n).toArray⟩) ∧ Below W.heap.size W w') := fun W => CV.out W n hn20
  have hAl := St.short_le hca
  have hBl := St.short_le hsb
  have hVl := l01_bytes n
  have hMl := l01_bytes m
  have HBY : Hid (Jb.bytes j = Cd.short ca ++ Cd.short sb ++ Pl.vb 8 n ++ j.ns.flatMap Cd.short ++ Pl.vb 8 m ++ j.ls.flatMap Cd.short) := by show _ = _; rw [HBJ.out, HCAB.out.1, HCAB.out.2]
  have HF2 : Hid (j.text? = .tuple #[.string ⟨(Jb.bytes j).toArray⟩, .bool true]) := by show _ = _; rw [HF.out]; rfl
  obtain ⟨BY, hBY⟩ : ∃ BY, BY = Jb.bytes j := ⟨_, rfl⟩
  rw [← hBY] at HBY HF2
  clear HBJ HCAB HF hBY
  generalize Cd.short ca = A at *
  generalize Cd.short sb = B at *
  obtain ⟨VN, hVN⟩ : ∃ VN, VN = Pl.vb 8 n := ⟨_, rfl⟩
  rw [← hVN] at CV1 HBY hVl
  clear hVN
  have HCAT : Hid ((⟨A.toArray⟩ ++ ⟨B.toArray⟩ ++ ⟨VN.toArray⟩ : ByteArray) = ⟨(A ++ B ++ VN).toArray⟩) := by show _ = _; rw [cat_list, cat_list]
  have y1 : ¬ 9223372036854775807 < A.length + B.length := by omega
  have y2 : ¬ 9223372036854775807 < A.length + B.length + VN.length := by omega
  have HBD : Hid (Below W0.heap.size W0 w3.drew) := HW3.out.drew
  go_wp2_with fail
  go_region_held3 (fun W => W.cell? ⟨w.heap.size, 8, none⟩ = some (.slice na n nc) ∧ Hid (Below W0.heap.size W0 W)) (first | exact keepJ1 hb5 (by assumption) | exact keepJ1 hb6 (by assumption) | exact keepJ1 hb7 (by assumption) | exact ⟨q8, HBD.out⟩ | assumption) (first | (go_at_call_of 68 (Value.string ca); refine (CA1.out _).mono ?_; rintro e a5 ⟨rfl, hb5⟩) | (go_at_call_of 68 (Value.string sb); refine (CB1.out _).mono ?_; rintro e a6 ⟨rfl, hb6⟩) | (go_at_call 69; refine (CV1.out _).mono ?_; rintro e a7 ⟨rfl, hb7⟩))
  all_goals
    have HW4 : Hid (Below W0.heap.size W0 a7) := HBD.out.trans ((hb5.trans ((hb6.trans (hb7.mono hb6.size)).mono hb5.size)).mono HBD.out.size)
    obtain ⟨P, hP⟩ : ∃ P, P = A ++ B ++ VN := ⟨_, rfl⟩
    have hPl : P.length ≤ 270000 := by rw [hP, List.length_append, List.length_append]; omega
    have HBY2 : Hid (BY = P ++ j.ns.flatMap Cd.short ++ Pl.vb 8 m ++ j.ls.flatMap Cd.short) := by show _ = _; rw [HBY.out, hP]
    rw [← hP] at HCAT
    clear hb5 hb6 hb7 HBD CA1 CB1 CV1 q8 y1 y2 hP HBY HW3 hAl hBl hVl
    go_wp2_with fail
    go_loopw [8, 9] (fun s i wr => ∃ k : Nat, i = .int .i64 (k : Int) ∧ k ≤ n ∧ Hid (s = .string ⟨(P ++ (j.ns.take k).flatMap Cd.short).toArray⟩) ∧ Hid (Below W0.heap.size W0 wr)) (fun _ i _ => n - (intOf i).toNat)
    case atStart => exact ⟨0, rfl, by omega, by show _ = _; rw [HCAT.out]; simp, HW4.out⟩
    case round =>
      clear HW4 HCAT
      obtain ⟨k, rfl, hk, HSV, HW⟩ := hrel
      obtain ⟨-, -, q8, q9⟩ := HCS.out _ HW.out
      have hSl : (P ++ (j.ns.take k).flatMap Cd.short).length ≤ 280000 := by have := Jb.flat_short (k := k) HN8.out (by rw [← HN.out.1]; exact hn20); rw [List.length_append]; omega
      by_cases hlt : k < n
      · have d0 : decide ((k : Int) < (n : Int)) = true := decide_eq_true (by omega)
        have hk1 : (k : Int) < (n : Int) := by omega
        have hat := (HA.out _ (HQ.out _ HW.out).2).n
        rw [← HN.out.1] at hat
        obtain ⟨b, p, rfl, c0⟩ := TsAt.cell hat HN.out.1 hlt
        have h8 := HN8.out k (by rw [← HN.out.1]; exact hlt)
        have HNX : Hid (P ++ (j.ns.take (k + 1)).flatMap Cd.short = (P ++ (j.ns.take k).flatMap Cd.short) ++ Cd.short (j.ns.getD k ByteArray.empty)) := by
          show _ = _
          rw [Cd.take_flat Cd.short j.ns ByteArray.empty k (by rw [← HN.out.1]; exact hlt), List.append_assoc]
        have CS1 : Hid (∀ W, Calls Tryz.prog 68 #[.string (j.ns.getD k ByteArray.empty)] W fun e w' => e = .returned (.string ⟨(Cd.short (j.ns.getD k ByteArray.empty)).toArray⟩) ∧ Below W.heap.size W w') := fun W => CS.out W _ (by omega)
        have hTl := St.short_le h8
        generalize P ++ (j.ns.take k).flatMap Cd.short = S at *
        obtain rfl := HSV.out
        generalize Cd.short (j.ns.getD k ByteArray.empty) = T at *
        generalize j.ns.getD k ByteArray.empty = t at *
        have HCAT : Hid ((⟨S.toArray⟩ ++ ⟨T.toArray⟩ : ByteArray) = ⟨(S ++ T).toArray⟩) := cat_list _ _
        clear HSV hat h8 q9
        go_wp2_with fail
        refine (CS1.out _).mono ?_
        rintro e w5 ⟨rfl, hb5⟩
        have HW5 : Hid (Below W0.heap.size W0 w5) := HW.out.trans (hb5.mono HW.out.size)
        clear hb5 CS1 HW q8 c0
        go_wp2_with fail
        go_roundw
        case rel => exact ⟨k + 1, by go_num, by omega, by show _ = _; rw [HNX.out, ← HCAT.out], HW5.out⟩
        case measure => simp [intOf]; omega
      · have HKK : Hid (k = n) := (by omega : k = n)
        have d0 : decide ((k : Int) < (n : Int)) = false := decide_eq_false (by omega)
        obtain ⟨S, hS⟩ : ∃ S, S = P ++ j.ns.flatMap Cd.short := ⟨_, rfl⟩
        have HS2 : Hid (P ++ (j.ns.take k).flatMap Cd.short = S) := by show _ = _; rw [hS, HKK.out, HN.out.1, List.take_length]
        rw [HS2.out] at HSV hSl
        obtain rfl := HSV.out
        have HBY3 : Hid (BY = S ++ Pl.vb 8 m ++ j.ls.flatMap Cd.short) := by show _ = _; rw [hS]; exact HBY2.out
        have CV2 := hidOfJ (fun W => CV.out W m hm20)
        obtain ⟨VM, hVM⟩ : ∃ VM, VM = Pl.vb 8 m := ⟨_, rfl⟩
        rw [← hVM] at CV2 HBY3 hMl
        have HCAT : Hid ((⟨S.toArray⟩ ++ ⟨VM.toArray⟩ : ByteArray) = ⟨(S ++ VM).toArray⟩) := cat_list _ _
        clear hS HSV HS2 HBY2 hVM CV
        go_wp2_with fail
        refine (CV2.out _).mono ?_
        rintro e w5 ⟨rfl, hb5⟩
        have HW5 : Hid (Below W0.heap.size W0 w5) := HW.out.trans (hb5.mono HW.out.size)
        obtain ⟨R, hR⟩ : ∃ R, R = S ++ VM := ⟨_, rfl⟩
        have hRl : R.length ≤ 281000 := by rw [hR, List.length_append]; omega
        rw [← hR] at HCAT HBY3
        clear hb5 HW hR q8 q9 CV2
        go_wp2_with fail
        go_loopw [8, 10] (fun s i wr => ∃ k : Nat, i = .int .i64 (k : Int) ∧ k ≤ m ∧ Hid (s = .string ⟨(R ++ (j.ls.take k).flatMap Cd.short).toArray⟩) ∧ Hid (Below W0.heap.size W0 wr)) (fun _ i _ => m - (intOf i).toNat)
        case atStart => exact ⟨0, rfl, by omega, by show _ = _; rw [HCAT.out]; simp, HW5.out⟩
        case round =>
          clear HW5 HCAT
          obtain ⟨k2, rfl, hk2, HSV, HW⟩ := hrel
          obtain ⟨-, -, -, q9⟩ := HCS.out _ HW.out
          have hSl2 : (R ++ (j.ls.take k2).flatMap Cd.short).length ≤ 290000 := by have := Jb.flat_short (k := k2) HL2.out (by rw [← HN.out.2]; exact hm20); rw [List.length_append]; omega
          by_cases hlt2 : k2 < m
          · have d1 : decide ((k2 : Int) < (m : Int)) = true := decide_eq_true (by omega)
            have hk3 : (k2 : Int) < (m : Int) := by omega
            have hat := (HA.out _ (HQ.out _ HW.out).2).m
            rw [← HN.out.2] at hat
            obtain ⟨b, p, rfl, c0⟩ := TsAt.cell hat HN.out.2 hlt2
            have h200 := HL2.out k2 (by rw [← HN.out.2]; exact hlt2)
            have HNX : Hid (R ++ (j.ls.take (k2 + 1)).flatMap Cd.short = (R ++ (j.ls.take k2).flatMap Cd.short) ++ Cd.short (j.ls.getD k2 ByteArray.empty)) := by
              show _ = _
              rw [Cd.take_flat Cd.short j.ls ByteArray.empty k2 (by rw [← HN.out.2]; exact hlt2), List.append_assoc]
            have CS1 : Hid (∀ W, Calls Tryz.prog 68 #[.string (j.ls.getD k2 ByteArray.empty)] W fun e w' => e = .returned (.string ⟨(Cd.short (j.ls.getD k2 ByteArray.empty)).toArray⟩) ∧ Below W.heap.size W w') := fun W => CS.out W _ (by omega)
            have hTl := St.short_le h200
            generalize R ++ (j.ls.take k2).flatMap Cd.short = S2 at *
            obtain rfl := HSV.out
            generalize Cd.short (j.ls.getD k2 ByteArray.empty) = T at *
            generalize j.ls.getD k2 ByteArray.empty = t at *
            have HCAT : Hid ((⟨S2.toArray⟩ ++ ⟨T.toArray⟩ : ByteArray) = ⟨(S2 ++ T).toArray⟩) := cat_list _ _
            clear HSV hat h200
            go_wp2_with fail
            refine (CS1.out _).mono ?_
            rintro e w5 ⟨rfl, hb5⟩
            have HW5 : Hid (Below W0.heap.size W0 w5) := HW.out.trans (hb5.mono HW.out.size)
            clear hb5 CS1 HW q9 c0
            go_wp2_with fail
            go_roundw
            case rel => exact ⟨k2 + 1, by go_num, by omega, by show _ = _; rw [HNX.out, ← HCAT.out], HW5.out⟩
            case measure => simp [intOf]; omega
          · have HKK2 : Hid (k2 = m) := (by omega : k2 = m)
            have d1 : decide ((k2 : Int) < (m : Int)) = false := decide_eq_false (by omega)
            have HE : Hid (R ++ (j.ls.take k2).flatMap Cd.short = BY) := by show _ = _; rw [HBY3.out, HKK2.out, HN.out.2, List.take_length]
            rw [HE.out] at HSV
            obtain rfl := HSV.out
            go_wp2_with fail
            go_ret2
            exact ⟨by rw [HF2.out]; rfl, (HQ.out _ HW.out).2⟩
end PartJbC
section PartRcP
namespace Pl
/-- What is read is what its number is written as. -/
theorem rvF_bytes (f : Nat) (pre r : List UInt8) (n k : Nat) (hp : Goes pre) (hf : pre.length + f ≤ 9) (h : rvF f pre r = some (n, k)) : pre.length < k ∧ pre ++ r.take (k - pre.length) = vb 8 n := by
  induction f generalizing pre r with
  | zero => simp [rvF] at h
  | succ f ih =>
    cases r with
    | nil => simp [rvF] at h
    | cons b r =>
      by_cases hb : b.toNat < 128
      · by_cases h2 : (b.toNat = 0 ∧ 0 < pre.length) ∨ 1000000000 < val (pre ++ [b])
        · rw [rvF_bad f pre b r hb h2] at h; cases h
        · rw [rvF_end f pre b r hb h2] at h
          simp only [Option.some.injEq, Prod.mk.injEq] at h
          obtain ⟨rfl, rfl⟩ := h
          refine ⟨by omega, ?_⟩
          have := (vb_val 8 pre b hp hb (by omega)).2 (fun h => h2 (.inl h))
          rw [this, show pre.length + 1 - pre.length = 1 by omega]
          rfl
      · rw [rvF_on f pre b r (by omega)] at h
        obtain ⟨h1, h2⟩ := ih (pre ++ [b]) r (hp.snoc (by omega)) (by simp; omega) h
        simp only [List.length_append, List.length_singleton] at h1 h2
        refine ⟨by omega, ?_⟩
        rw [← h2, show k - pre.length = (k - (pre.length + 1)) + 1 by omega, List.take_succ_cons, List.append_assoc]
        rfl
end Pl

namespace Rc
/-- A number at a place, and the place behind it. -/
def rv (L : List UInt8) (a : Nat) : Option (Nat × Nat) := (Pl.rvF 5 [] (L.drop a)).map fun r => (r.1, a + r.2)
/-- A short text at a place. -/
def rs (L : List UInt8) (a : Nat) : Option (List UInt8 × Nat) :=
  match rv L a with
  | none => none
  | some (m, k) => if m ≤ 20000 ∧ k + m ≤ L.length then some ((L.drop k).take m, k + m) else none
/-- The first k texts from a on. -/
def txts (L : List UInt8) (a : Nat) : Nat → Option (List (List UInt8) × Nat)
  | 0 => some ([], a)
  | k + 1 => match txts L a k with
    | none => none
    | some (ts, b) => match rs L b with
      | none => none
      | some (t, c) => some (ts ++ [t], c)
/-- The first k instructions from a on. -/
def inss (L : List UInt8) (a : Nat) : Nat → Option (List Ins × Nat)
  | 0 => some ([], a)
  | k + 1 => match inss L a k with
    | none => none
    | some (xs, b) => if b + 2 ≤ L.length then some (xs ++ [⟨((L.getD b 0).toNat : Int), ((L.getD (b + 1) 0).toNat : Int)⟩], b + 2) else none

theorem rv_bytes {L : List UInt8} {a n k : Nat} (ha : a ≤ L.length) (h : rv L a = some (n, k)) : a < k ∧ k ≤ L.length ∧ L.take k = L.take a ++ Pl.vb 8 n ∧ n ≤ 1000000000 := by
  unfold rv at h
  obtain ⟨⟨n', j⟩, h1, h2⟩ := Option.map_eq_some_iff.1 h
  simp only [Prod.mk.injEq] at h2
  obtain ⟨rfl, rfl⟩ := h2
  obtain ⟨h3, h4⟩ := Pl.rvF_some _ _ _ _ _ h1
  obtain ⟨h5, h6⟩ := Pl.rvF_bytes 5 [] _ _ _ (fun _ h => by cases h) (by simp) h1
  simp only [List.length_nil, List.length_drop, Nat.zero_add, Nat.sub_zero, List.nil_append] at h4 h5 h6
  refine ⟨by omega, by omega, ?_, h3⟩
  rw [← h6, List.take_add]
theorem rs_bytes {L t : List UInt8} {a k : Nat} (ha : a ≤ L.length) (h : rs L a = some (t, k)) : a < k ∧ k ≤ L.length ∧ t.length ≤ 20000 ∧ L.take k = L.take a ++ (Pl.vb 8 t.length ++ t) := by
  unfold rs at h
  cases hr : rv L a with
  | none => rw [hr] at h; cases h
  | some r =>
    obtain ⟨m, j⟩ := r
    rw [hr] at h
    simp only at h
    split at h
    · rename_i hc
      simp only [Option.some.injEq, Prod.mk.injEq] at h
      obtain ⟨rfl, rfl⟩ := h
      obtain ⟨h1, h2, h3, h4⟩ := rv_bytes ha hr
      have hl : ((L.drop j).take m).length = m := by rw [List.length_take, List.length_drop]; omega
      refine ⟨by omega, by omega, by omega, ?_⟩
      rw [hl, List.take_add, h3, List.append_assoc]
    · cases h
theorem txts_bytes {L : List UInt8} {a : Nat} (ha : a ≤ L.length) : ∀ (k : Nat) {ts : List (List UInt8)} {b : Nat}, txts L a k = some (ts, b) → a ≤ b ∧ b ≤ L.length ∧ ts.length = k ∧ (∀ t ∈ ts, t.length ≤ 20000) ∧ L.take b = L.take a ++ ts.flatMap (fun t => Pl.vb 8 t.length ++ t)
  | 0, ts, b, h => by
    simp only [txts, Option.some.injEq, Prod.mk.injEq] at h
    obtain ⟨rfl, rfl⟩ := h
    exact ⟨Nat.le_refl _, ha, rfl, (fun t ht => by simp at ht), by simp⟩
  | k + 1, ts, b, h => by
    simp only [txts] at h
    cases hr : txts L a k with
    | none => rw [hr] at h; cases h
    | some r =>
      obtain ⟨ts1, b1⟩ := r
      rw [hr] at h
      simp only at h
      obtain ⟨h1, h2, h3, h4, h5⟩ := txts_bytes ha k hr
      cases hq : rs L b1 with
      | none => rw [hq] at h; cases h
      | some r2 =>
        obtain ⟨t, c⟩ := r2
        rw [hq] at h
        simp only [Option.some.injEq, Prod.mk.injEq] at h
        obtain ⟨rfl, rfl⟩ := h
        obtain ⟨g1, g2, g3, g4⟩ := rs_bytes h2 hq
        refine ⟨by omega, g2, by simp [h3], fun x hx => ?_, ?_⟩
        · simp only [List.mem_append, List.mem_singleton] at hx
          rcases hx with hx | rfl
          · exact h4 x hx
          · exact g3
        · rw [g4, h5, List.flatMap_append, List.append_assoc]
          simp
theorem inss_bytes {L : List UInt8} {a : Nat} (ha : a ≤ L.length) : ∀ (k : Nat) {xs : List Ins} {b : Nat}, inss L a k = some (xs, b) → a ≤ b ∧ b ≤ L.length ∧ xs.length = k ∧ L.take b = L.take a ++ xs.flatMap Cd.two
  | 0, xs, b, h => by
    simp only [inss, Option.some.injEq, Prod.mk.injEq] at h
    obtain ⟨rfl, rfl⟩ := h
    exact ⟨Nat.le_refl _, ha, rfl, by simp⟩
  | k + 1, xs, b, h => by
    simp only [inss] at h
    cases hr : inss L a k with
    | none => rw [hr] at h; cases h
    | some r =>
      obtain ⟨xs1, b1⟩ := r
      rw [hr] at h
      simp only at h
      obtain ⟨h1, h2, h3, h4⟩ := inss_bytes ha k hr
      split at h
      · rename_i hc
        simp only [Option.some.injEq, Prod.mk.injEq] at h
        obtain ⟨rfl, rfl⟩ := h
        refine ⟨by omega, by omega, by simp [h3], ?_⟩
        have e1 : b1 < L.length := by omega
        have e2 : b1 + 1 < L.length := by omega
        rw [List.take_add, h4, List.flatMap_append, List.append_assoc]
        have e3 : (L.drop b1).take 2 = [L[b1], L[b1 + 1]] := by
          rw [List.drop_eq_getElem_cons e1, List.take_succ_cons, List.drop_eq_getElem_cons e2, List.take_succ_cons, List.take_zero]
        rw [e3]
        simp [Cd.two, e1, e2]
      · cases h

/-- What ReadCode answers. -/
def ans (L : List UInt8) : Option (List ByteArray × List Ins × Nat × Nat) :=
  match rv L 0 with
  | none => none
  | some (n, a1) => if 60 < n then none else match txts L a1 n with
    | none => none
    | some (ts, a2) => match rv L a2 with
      | none => none
      | some (m, a3) => if 250 < m then none else match inss L a3 m with
        | none => none
        | some (xs, a4) => match rv L a4 with
          | none => none
          | some (l, a5) => match rv L a5 with
            | none => none
            | some (u, a6) => if a6 = L.length ∧ Cd.ok (ts.map fun t => ⟨t.toArray⟩) xs 0 (l : Int) (u : Int) = true then some (ts.map fun t => ⟨t.toArray⟩, xs, l, u) else none
/-- All is read: then the bytes are these, up to where it ends. -/
theorem run_bytes {L : List UInt8} {n a1 m a2 a3 l a4 u a5 a6 : Nat} {ts : List (List UInt8)} {xs : List Ins} (h1 : rv L 0 = some (n, a1)) (h2 : txts L a1 n = some (ts, a2)) (h3 : rv L a2 = some (m, a3)) (h4 : inss L a3 m = some (xs, a4)) (h5 : rv L a4 = some (l, a5)) (h6 : rv L a5 = some (u, a6)) :
    a6 ≤ L.length ∧ L.take a6 = Cd.bytes (ts.map fun t => ⟨t.toArray⟩) xs (l : Int) (u : Int) := by
  obtain ⟨_, b1, c1, _⟩ := rv_bytes (Nat.zero_le _) h1
  obtain ⟨_, b2, c2, _, d2⟩ := txts_bytes b1 n h2
  obtain ⟨_, b3, c3, _⟩ := rv_bytes b2 h3
  obtain ⟨_, b4, c4, d4⟩ := inss_bytes b3 m h4
  obtain ⟨_, b5, c5, _⟩ := rv_bytes b4 h5
  obtain ⟨_, b6, c6, _⟩ := rv_bytes b5 h6
  refine ⟨b6, ?_⟩
  unfold Cd.bytes
  rw [c6, c5, d4, c3, d2, c1, List.take_zero, List.nil_append, List.length_map, c2, c4, Int.toNat_natCast, Int.toNat_natCast]
  congr 4
  rw [List.flatMap_map]
  congr 1
/-- The whole text is read just where it is the code's bytes. -/
theorem run_whole {L : List UInt8} {n a1 m a2 a3 l a4 u a5 a6 : Nat} {ts : List (List UInt8)} {xs : List Ins} (h1 : rv L 0 = some (n, a1)) (h2 : txts L a1 n = some (ts, a2)) (h3 : rv L a2 = some (m, a3)) (h4 : inss L a3 m = some (xs, a4)) (h5 : rv L a4 = some (l, a5)) (h6 : rv L a5 = some (u, a6)) :
    a6 = L.length ↔ Cd.bytes (ts.map fun t => ⟨t.toArray⟩) xs (l : Int) (u : Int) = L := by
  obtain ⟨h7, h8⟩ := run_bytes h1 h2 h3 h4 h5 h6
  rw [← h8]
  constructor
  · rintro rfl; exact List.take_length
  · intro h
    have := congrArg List.length h
    rw [List.length_take] at this
    omega
end Rc
end PartRcP
end Go.Proofs.YtehagonaacbmiaaGreat
