/- The program's writer of bytes: what it has written, as a text. The program's writer of bytes: several short texts at once. A store in bytes: the program's StoreText. The law's own test of a draw's length, and texts put together. -/
import Derived.Test.YtmofljfffcnlbaaMPSxZas
import Derived.Test.YtmofljfffcnlbaaMPSxZad
import Derived.Test.YtmofljfffcnlbaaMPSxStX
import Derived.Test.YtmofljfffcnlbaaMPSxZaz
import Derived.Test.YtmofljfffcnlbaaMPSxZak
namespace Go.Proofs.Ytmofljfffcnlbaa
section PartBwB
open Go.RowKit

set_option maxHeartbeats 1000000 in
set_option maxRecDepth 100000 in
theorem bwText (b : Nat) (l : List UInt8) (w : World) (h : Bw b w l) (h0 : l ≠ []) (hlen : l.length ≤ 1000000) :
    Calls Try.prog 18 #[.pointer (some ⟨b, 0, none⟩)] w fun e w' => e = .returned (.string ⟨l.toArray⟩) ∧ Below b w w' := by
  obtain ⟨p, -, v, hbk, hown, -⟩ : ∃ p, Lib.BuilderAt 44 5 b b p (Lib.byteCells l) w := h.elim (fun x => ⟨_, x⟩) (fun x => ⟨_, x⟩)
  rw [Lib.byteCells_length] at hown
  have hl0 : 0 < l.length := List.length_pos_iff.2 h0
  obtain ⟨g, cap, cur, rfl, hbg, hg, hnc, hcm, hcs, -⟩ : ∃ g cap cur, v = .slice (some ⟨g, 0, none⟩) l.length cap ∧ b ≤ g ∧ w.heap[g]? = some (.cells cur 5 (0, 0)) ∧ l.length ≤ cap ∧ cap ≤ maxLen ∧ cur.size = cap * 1 ∧ cur.toList.take (l.length * 1) = Lib.byteCells l := by
    rcases hown.2 with ⟨_, hz⟩ | ⟨g, cap, cur, hv, r⟩
    · omega
    · exact ⟨g, cap, cur, hv, r⟩
  have c1 : w.drew.cell? ⟨b, 1, none⟩ = some (.slice (some ⟨g, 0, none⟩) l.length cap) := by
    have : w.drew.heap[b]? = some (.cells #[p, .slice (some ⟨g, 0, none⟩) l.length cap] 44 (0, 0)) := hbk
    rw [Lib.cell_of_heap this]; rfl
  have hSD : (Builtin.unsafeSliceData_ #[22] 82 #[.slice (some ⟨g, 0, none⟩) l.length cap]).run Try.prog w.drew = .ok (.pointer (some ⟨g, 0, none⟩)) w.drew := Lib.run_unsafeSliceData_row _ _ _ _ _ _ (by omega)
  have hUS : (Builtin.unsafeString_ #[82, 3] 9 #[.pointer (some ⟨g, 0, none⟩), .int .i64 l.length]).run Try.prog w.drew = .ok (.string ⟨l.toArray⟩) (w.drew.freeze ⟨g, 0, none⟩ l.length) := by
    refine Lib.run_unsafeString_row w.drew 82 3 9 5 Try.underlying82 (by kernel_rfl) g cur.size (by have hg2 : w.drew.heap[g]? = some (.cells cur 5 (0, 0)) := hg; simp [World.shape?, hg2]) l h0 (by omega) (by omega) ?_
    intro j x hx
    exact hown.cells (g := g) rfl j (.int .u8 x.toNat) (by simp [Lib.byteCells, hx])
  have HE : Hid (Below b w (w.drew.freeze ⟨g, 0, none⟩ l.length)) := Lib.below_freeze (Below.drew (Below.refl b w)) (p := ⟨g, 0, none⟩) hbg _
  have mixed : Try.prog.follows Departure.mixedOrders = true := by kernel_rfl
  clear h hown hbk hcs hg
  go_enter Try.func18, Try.ntmps18
  go_wp2
  go_region_o
  all_goals
    go_wp2
    go_ret
    exact ⟨rfl, HE.out⟩
end PartBwB
section PartBwC
open Go.RowKit

set_option maxHeartbeats 2000000 in
set_option maxRecDepth 100000 in
theorem bwShorts (b : Nat) (L : List UInt8) (ts : List ByteArray) (q c : Nat) (arr : Array Value) (T : TypeId) (w : World) (h : Bw b w L) (hq : w.heap[q]? = some (.cells arr T (0, 0))) (hT : T ≠ 5) (hqb : q ≠ b)
    (ha : ∀ i, i < ts.length → arr[i]? = some (.string (ts.getD i ByteArray.empty))) (hk : ts.length ≤ 4) (hs : ∀ i, i < ts.length → (ts.getD i ByteArray.empty).size ≤ 3000) (hl : L.length ≤ 800000) :
    Calls Try.prog 16 #[.pointer (some ⟨b, 0, none⟩), .slice (some ⟨q, 0, none⟩) ts.length c] w fun e w' => e = .returned (.tuple #[]) ∧ Bw b w' (L ++ ts.flatMap Cd.short) ∧ Below b w w' ∧ Ok5 b w w' := by
  have hbw : b < w.heap.size := by
    rcases h with h | h
    · exact h.lt
    · exact h.lt
  obtain ⟨n, hn⟩ : ∃ n, n = ts.length := ⟨_, rfl⟩
  have HM : Hid (n = ts.length) := hn
  have HA : Hid (∀ W, Ok5 b w W → ∀ i, i < n → W.cell? ⟨q, i, none⟩ = some (.string (ts.getD i ByteArray.empty))) := fun W ho i hi => by
    have := ho q arr T (0, 0) hq hT hqb
    rw [blk_cell this]
    exact ha i (by rw [← hn]; exact hi)
  have HS : Hid (∀ i, i < n → (ts.getD i ByteArray.empty).size ≤ 3000) := by rw [hn]; exact hs
  have HX : Hid (∀ k, ((ts.take k).flatMap Cd.short).length ≤ 16000) := by
    intro k
    have h2 := Cd.flat_le Cd.short 3009 (ts.take k) (fun x hx => by
      obtain ⟨i, hi, e⟩ := List.mem_iff_getElem.1 (List.mem_of_mem_take hx)
      have h3 := hs i hi
      rw [List.getD_eq_getElem?_getD, List.getElem?_eq_getElem hi] at h3
      simp only [Option.getD_some, e] at h3
      have h4 := l01_bytes x.size
      have h5 : x.data.toList.length = x.size := by simp
      unfold Cd.short
      rw [List.length_append, h5]
      omega)
    have h6 : (ts.take k).length ≤ 4 := by rw [List.length_take]; omega
    omega
  have CS : Hid (∀ (W : World) (M : List UInt8) (t : ByteArray), Bw b W M → M.length ≤ 900000 → t.size ≤ 3000 → Calls Try.prog 17 #[.pointer (some ⟨b, 0, none⟩), .string t] W fun e w' => e = .returned (.tuple #[]) ∧ Bw b w' (M ++ Cd.short t) ∧ Below b W w' ∧ Ok5 b W w') := fun W M t hM hm ht => bwShort5 b M t W hM hm (by omega)
  have HN0 : Hid (Bw b w (L ++ (ts.take 0).flatMap Cd.short)) := by
    have : L ++ (ts.take 0).flatMap Cd.short = L := by simp
    show Bw b w _
    rw [this]
    exact h
  rw [← hn] at hk ⊢
  clear h hq ha hs hn
  go_enter Try.func16, Try.ntmps16
  go_wp2_with fail
  go_loopw [5, 8] (fun _ i wr => ∃ k : Nat, i = .int .i64 (k : Int) ∧ k ≤ n ∧ Hid (Bw b wr (L ++ (ts.take k).flatMap Cd.short)) ∧ Hid (Below b w wr) ∧ Hid (Ok5 b w wr)) (fun _ i _ => n - (intOf i).toNat)
  case atStart => exact ⟨0, rfl, by omega, HN0.out, Below.refl _ _, Ok5.refl _ _⟩
  case round =>
    clear HN0
    obtain ⟨k, rfl, hk2, HN, HB, HO⟩ := hrel
    by_cases hlt : k < n
    · have d0 : decide ((k : Int) < (n : Int)) = true := decide_eq_true (by omega)
      have hk1 : (k : Int) < (n : Int) := by omega
      have c0 := HA.out _ HO.out k hlt
      have h30 := HS.out k hlt
      have hSl := HX.out k
      have HNX : Hid (L ++ (ts.take (k + 1)).flatMap Cd.short = (L ++ (ts.take k).flatMap Cd.short) ++ Cd.short (ts.getD k ByteArray.empty)) := by
        show _ = _
        rw [Cd.take_flat Cd.short ts ByteArray.empty k (by rw [← HM.out]; exact hlt), List.append_assoc]
      have C := CS.out wr _ (ts.getD k ByteArray.empty) HN.out (by rw [List.length_append]; omega) h30
      rw [← HNX.out] at C
      have HCC : Hid (Calls Try.prog 17 #[.pointer (some ⟨b, 0, none⟩), .string (ts.getD k ByteArray.empty)] wr fun e w' => e = .returned (.tuple #[]) ∧ Bw b w' (L ++ (ts.take (k + 1)).flatMap Cd.short) ∧ Below b wr w' ∧ Ok5 b wr w') := C
      clear C HNX
      generalize ts.getD k ByteArray.empty = t at *
      go_wp2_with fail
      refine HCC.out.mono ?_
      rintro e w3 ⟨rfl, hn3, hb3, ho3⟩
      have HN3 : Hid (Bw b w3 (L ++ (ts.take (k + 1)).flatMap Cd.short)) := hn3
      have HB3 : Hid (Below b w w3) := HB.out.trans hb3
      have HO3 : Hid (Ok5 b w w3) := HO.out.trans ho3
      clear hn3 hb3 ho3 HCC HN HB HO
      go_wp2
      go_roundw
      case rel => exact ⟨k + 1, by go_num, by omega, HN3.out, HB3.out, HO3.out⟩
      case measure => simp [intOf]; omega
    · have HKK : Hid (k = n) := (by omega : k = n)
      have HF : Hid (Bw b wr (L ++ ts.flatMap Cd.short)) := by
        have := HN.out
        rw [HKK.out, HM.out, List.take_length] at this
        exact this
      have d0 : decide ((k : Int) < (n : Int)) = false := decide_eq_false (by omega)
      clear HN
      go_wp2_with fail
      go_end0
      exact ⟨rfl, HF.out, HB.out, HO.out⟩
end PartBwC
section PartStI
open Go.RowKit

theorem vb8_pos (n : Nat) : 0 < (Pl.vb 8 n).length := by
  by_cases h : 127 < n
  · rw [Pl.vb_more 7 n h]; simp
  · rw [Pl.vb_last 8 n h]; simp

set_option maxHeartbeats 4000000 in
set_option maxRecDepth 100000 in
theorem imStoreText (tv lv : Value) (o : ByteArray) (vs : List Vr) (cs : List Cl) (w : World) (h1 : VrAt w tv vs) (h2 : ClAt w lv cs) (hs : StSmall vs cs o) :
    Calls Try.prog 6 #[.agg #[tv, lv, .string o]] w fun e w' => e = .returned (St.text? vs cs o) ∧ Below w.heap.size w w' := by
  obtain ⟨V, hV⟩ : ∃ V, V = St.ok vs cs o := ⟨_, rfl⟩
  have CO : Hid (∀ W, Below w.heap.size w W → Calls Try.prog 14 #[.agg #[tv, lv, .string o]] W fun e w' => e = .returned (.bool V) ∧ Below W.heap.size W w') := fun W hb => by rw [hV]; exact imStoreOk tv lv o vs cs W (h1.keep hb) (h2.keep hb) hs
  have HT : Hid (∀ W, Below w.heap.size w W → VrAt W tv vs ∧ ClAt W lv cs) := fun W hb => ⟨h1.keep hb, h2.keep hb⟩
  obtain ⟨ta, tc, rfl, -⟩ := h1
  obtain ⟨la, lc, rfl, -⟩ := h2
  obtain ⟨m, hm⟩ : ∃ m, m = cs.length := ⟨_, rfl⟩
  obtain ⟨n, hn⟩ : ∃ n, n = vs.length := ⟨_, rfl⟩
  have HM : Hid (m = cs.length ∧ n = vs.length) := ⟨hm, hn⟩
  rw [← hm, ← hn] at HT CO ⊢
  clear hm hn hs
  have HB0 : Hid (Below w.heap.size w (w.alloc (.cells #[.slice ta n tc, .slice la m lc, .string o] 27))) := (Below.refl _ _).alloc (Nat.le_refl _) _
  have HR0 : Hid ((w.alloc (.cells #[.slice ta n tc, .slice la m lc, .string o] 27)).heap[w.heap.size]? = some (.cells #[.slice ta n tc, .slice la m lc, .string o] 27 (0, 0))) := heap_alloc_new _ _
  have hz : w.heap.size < (w.alloc (.cells #[.slice ta n tc, .slice la m lc, .string o] 27)).heap.size := by simp
  go_enter Try.func6, Try.ntmps6
  go_wp2_with fail
  generalize w.alloc (.cells #[.slice ta n tc, .slice la m lc, .string o] 27) = W0 at *
  refine (CO.out _ HB0.out).mono ?_
  rintro e w1 ⟨rfl, hb1⟩
  have HW1 : Hid (Below w.heap.size w w1) := HB0.out.trans (hb1.mono HB0.out.size)
  have HR1 : Hid (w1.heap[w.heap.size]? = some (.cells #[.slice ta n tc, .slice la m lc, .string o] 27 (0, 0))) := (hb1.block _ hz).trans HR0.out
  have hz1 : w.heap.size < w1.heap.size := Nat.lt_of_lt_of_le hz hb1.size
  clear hb1 CO HR0 HB0 hz
  cases V
  · have HF : Hid (St.text? vs cs o = .tuple #[.string ⟨#[]⟩, .bool false]) := by show _ = _; unfold St.text?; rw [← hV]; rfl
    clear hV
    go_wp2
    go_ret2
    exact ⟨by rw [HF.out]; rfl, HW1.out⟩
  obtain ⟨BY, hBY⟩ : ∃ BY, BY = St.bytes vs cs o := ⟨_, rfl⟩
  have HF : Hid (St.text? vs cs o = .tuple #[.string ⟨BY.toArray⟩, .bool true]) := by show _ = _; unfold St.text?; rw [← hV, hBY]; rfl
  obtain ⟨g1, g2, g3, g4, g5⟩ := St.ok_sizes hV.symm
  have HG : Hid (∀ i, i < n → (vs.getD i Vr.no).name.size ≤ 8 ∧ (vs.getD i Vr.no).val.size ≤ 40) := by rw [HM.out.2]; exact g4
  have HI : Hid (∀ i, i < m → (cs.getD i Cl.no).name.size ≤ 8 ∧ (cs.getD i Cl.no).key.size ≤ 40 ∧ (cs.getD i Cl.no).val.size ≤ 40) := by rw [HM.out.1]; exact g5
  rw [← HM.out.2] at g1
  rw [← HM.out.1] at g2
  have HBY : Hid (BY = Pl.vb 8 n ++ vs.flatMap St.vbytes ++ Pl.vb 8 m ++ cs.flatMap St.cbytes ++ Cd.short o) := by show _ = _; rw [hBY, HM.out.1, HM.out.2]; rfl
  have HLB : Hid (∀ k, (Pl.vb 8 n ++ (vs.take k).flatMap St.vbytes).length ≤ 5000) := by
    intro k
    have h1 := l01_bytes n
    have h2 := Cd.flat_le St.vbytes 66 (vs.take k) (fun x hx => by
      obtain ⟨i, hi, e⟩ := List.mem_iff_getElem.1 (List.mem_of_mem_take hx)
      have h3 := g4 i hi
      rw [List.getD_eq_getElem?_getD, List.getElem?_eq_getElem hi] at h3
      simp only [Option.getD_some, e] at h3
      have h4 := St.short_le h3.1
      have h5 := St.short_le h3.2
      unfold St.vbytes
      rw [List.length_append]
      omega)
    have h6 : (vs.take k).length ≤ 60 := by have := HM.out.2; rw [List.length_take]; omega
    rw [List.length_append]
    omega
  have HTB : Hid (∀ k, ((cs.take k).flatMap St.cbytes).length ≤ 250000) := by
    intro k
    have h2 := Cd.flat_le St.cbytes 115 (cs.take k) (fun x hx => by
      obtain ⟨i, hi, e⟩ := List.mem_iff_getElem.1 (List.mem_of_mem_take hx)
      have h3 := g5 i hi
      rw [List.getD_eq_getElem?_getD, List.getElem?_eq_getElem hi] at h3
      simp only [Option.getD_some, e] at h3
      have h4 := St.short_le h3.1
      have h5 := St.short_le h3.2.1
      have h7 := St.short_le h3.2.2
      unfold St.cbytes
      rw [List.length_append, List.length_append]
      omega)
    have h6 : (cs.take k).length ≤ 2000 := by have := HM.out.1; rw [List.length_take]; omega
    omega
  have hvm := l01_bytes m
  have hvo := St.short_le g3
  have HO3 : Hid (o.size ≤ 3000) := g3
  clear g4 g5 hV hBY g3
  obtain ⟨b, hb⟩ : ∃ b, b = w1.heap.size := ⟨_, rfl⟩
  have HN0 : Hid (Bw b (w1.alloc (.cells #[.pointer none, .slice none 0 0] 44)) []) := by rw [hb]; exact Bw.new w1
  have HBN : Hid (Below b w1 (w1.alloc (.cells #[.pointer none, .slice none 0 0] 44))) := (Below.refl _ _).alloc (by omega) _
  have HC : Hid (∀ W, Below b w1 W → W.heap[w.heap.size]? = some (.cells #[.slice ta n tc, .slice la m lc, .string o] 27 (0, 0)) ∧ Below w.heap.size w W) := fun W hb' => ⟨(hb'.block _ (by omega)).trans HR1.out, HW1.out.trans (hb'.mono (by omega))⟩
  have CN : Hid (∀ (W : World) (L : List UInt8) (k : Nat), Bw b W L → L.length ≤ 300000 → k ≤ 2000 → Calls Try.prog 15 #[.pointer (some ⟨b, 0, none⟩), .int .i64 (k : Int)] W fun e w' => e = .returned (.tuple #[]) ∧ Bw b w' (L ++ Pl.vb 8 k) ∧ Below b W w') := fun W L k h hl hk => bwNumber b L k W h (by omega) (by omega)
  have CS : Hid (∀ (W : World) (L : List UInt8) (t : ByteArray), Bw b W L → L.length ≤ 300000 → t.size ≤ 3000 → Calls Try.prog 17 #[.pointer (some ⟨b, 0, none⟩), .string t] W fun e w' => e = .returned (.tuple #[]) ∧ Bw b w' (L ++ Cd.short t) ∧ Below b W w') := fun W L t h hl hk => bwShort b L t W h (by omega) (by omega)
  have R := (HC.out _ HBN.out).1
  have q0 := blk_cell R 0
  simp only [List.getElem?_toArray, List.getElem?_cons_zero] at q0
  clear R HR1 HW1
  have hbw : b ≤ (w1.alloc (.cells #[.pointer none, .slice none 0 0] 44)).heap.size := by simp; omega
  go_wp2_with fail
  rw [← hb] at *
  generalize w1.alloc (.cells #[.pointer none, .slice none 0 0] 44) = W1 at *
  refine (CN.out _ [] n HN0.out (by simp) (by omega)).mono ?_
  rintro e w2 ⟨rfl, hn2, hb2⟩
  have HN2 : Hid (Bw b w2 (Pl.vb 8 n ++ (vs.take 0).flatMap St.vbytes)) := by
    have : Pl.vb 8 n ++ (vs.take 0).flatMap St.vbytes = [] ++ Pl.vb 8 n := by simp
    rw [this]
    exact hn2
  have HB2 : Hid (Below b w1 w2) := HBN.out.trans hb2
  have R := (HC.out _ HB2.out).1
  have q0 := blk_cell R 0
  simp only [List.getElem?_toArray, List.getElem?_cons_zero] at q0
  clear R hn2 hb2 HN0 HBN
  go_wp2
  clear q0
  go_loopw [6, 22] (fun _ i wr => ∃ k : Nat, i = .int .i64 (k : Int) ∧ k ≤ n ∧ Hid (Bw b wr (Pl.vb 8 n ++ (vs.take k).flatMap St.vbytes)) ∧ Hid (Below b w1 wr)) (fun _ i _ => n - (intOf i).toNat)
  case atStart => exact ⟨0, rfl, by omega, HN2.out, HB2.out⟩
  case round =>
    clear HN2 HB2
    obtain ⟨k, rfl, hk, HN, HB⟩ := hrel
    obtain ⟨R, hbw2⟩ := HC.out _ HB.out
    have q1 := blk_cell R 1
    simp only [List.getElem?_toArray, List.getElem?_cons_zero, List.getElem?_cons_succ] at q1
    clear R
    have hbs : b < wr.heap.size := by
      rcases HN.out with h | h
      · exact h.lt
      · exact h.lt
    by_cases hlt : k < n
    · have d0 : decide ((k : Int) < (n : Int)) = true := decide_eq_true (by omega)
      have hk1 : (k : Int) < (n : Int) := by omega
      obtain ⟨tb, p, rfl, -, c0, c1⟩ := (HT.out _ hbw2).1.row HM.out.2.symm hlt
      obtain ⟨z8, z40⟩ := HG.out k hlt
      have hSl := HLB.out k
      have HNX : Hid (Pl.vb 8 n ++ (vs.take (k + 1)).flatMap St.vbytes = (Pl.vb 8 n ++ (vs.take k).flatMap St.vbytes) ++ [(vs.getD k Vr.no).name, (vs.getD k Vr.no).val].flatMap Cd.short) := by
        show _ = _
        rw [Cd.take_flat St.vbytes vs Vr.no k (by rw [← HM.out.2]; exact hlt), List.append_assoc]
        simp [St.vbytes]
      generalize (vs.getD k Vr.no).name = nm at *
      generalize (vs.getD k Vr.no).val = vl at *
      obtain ⟨U, hU⟩ : ∃ U, U = (wr.alloc (.cells #[.string nm, .string vl] 47)).alloc (.cells #[.string nm, .string vl] 9) := ⟨_, rfl⟩
      have hUb : Below wr.heap.size wr U := by rw [hU]; exact ((Below.refl _ _).alloc (Nat.le_refl _) _).alloc (by simp) _
      have RX : U.heap[wr.heap.size + 1]? = some (.cells #[.string nm, .string vl] 9 (0, 0)) := by
        rw [hU]
        have := heap_alloc_new (wr.alloc (.cells #[.string nm, .string vl] 47)) (.cells #[.string nm, .string vl] 9)
        rwa [show (wr.alloc (.cells #[.string nm, .string vl] 47)).heap.size = wr.heap.size + 1 by simp] at this
      have C := bwShorts b _ [nm, vl] (wr.heap.size + 1) 2 _ 9 U (HN.out.keep hUb) RX (by decide) (by omega) (by intro i hi; match i, hi with | 0, _ => rfl | 1, _ => rfl) (by simp) (by intro i hi; match i, hi with | 0, _ => exact (by omega : nm.size ≤ 3000) | 1, _ => exact (by omega : vl.size ≤ 3000)) (by omega)
      rw [← HNX.out] at C
      have HCC : Hid (Calls Try.prog 16 #[.pointer (some ⟨b, 0, none⟩), .slice (some ⟨wr.heap.size + 1, 0, none⟩) 2 2] U fun e w' => e = .returned (.tuple #[]) ∧ Bw b w' (Pl.vb 8 n ++ (vs.take (k + 1)).flatMap St.vbytes) ∧ Below b U w' ∧ Ok5 b U w') := C
      have HBU : Hid (Below b w1 U) := HB.out.trans (hUb.mono (by omega))
      clear C HNX hUb RX HN HB z8 z40
      go_wp2_with fail
      rw [← hU]
      clear hU
      refine HCC.out.mono ?_
      rintro e w3 ⟨rfl, hn3, hb3, -⟩
      have HN3 : Hid (Bw b w3 (Pl.vb 8 n ++ (vs.take (k + 1)).flatMap St.vbytes)) := hn3
      have HB3 : Hid (Below b w1 w3) := HBU.out.trans hb3
      clear hn3 hb3 HCC HBU c0 c1 q1
      go_wp2
      go_roundw
      case rel => exact ⟨k + 1, by go_num, by omega, HN3.out, HB3.out⟩
      case measure => simp [intOf]; omega
    · have HKK : Hid (k = n) := (by omega : k = n)
      have d0 : decide ((k : Int) < (n : Int)) = false := decide_eq_false (by omega)
      obtain ⟨S, hS⟩ : ∃ S, S = Pl.vb 8 n ++ vs.flatMap St.vbytes := ⟨_, rfl⟩
      have HS2 : Hid (Pl.vb 8 n ++ (vs.take k).flatMap St.vbytes = S) := by show _ = _; rw [hS, HKK.out, HM.out.2, List.take_length]
      have hSl := HLB.out k
      rw [HS2.out] at HN hSl
      have HBY2 : Hid (BY = S ++ Pl.vb 8 m ++ cs.flatMap St.cbytes ++ Cd.short o) := by show _ = _; rw [hS]; exact HBY.out
      have C := CN.out wr S m HN.out (by omega) g2
      obtain ⟨P, hP⟩ : ∃ P, P = S ++ Pl.vb 8 m := ⟨_, rfl⟩
      have hPl : P.length ≤ 5100 := by rw [hP, List.length_append]; omega
      rw [← hP] at C HBY2
      have HCC : Hid (Calls Try.prog 15 #[.pointer (some ⟨b, 0, none⟩), .int .i64 (m : Int)] wr fun e w' => e = .returned (.tuple #[]) ∧ Bw b w' P ∧ Below b wr w') := C
      clear hS HS2 HBY hbw2 C hP hSl
      go_wp2_with fail
      refine HCC.out.mono ?_
      rintro e w3 ⟨rfl, hn3, hb3⟩
      have HN3 : Hid (Bw b w3 (P ++ (cs.take 0).flatMap St.cbytes)) := by
        have : P ++ (cs.take 0).flatMap St.cbytes = P := by simp
        rw [this]
        exact hn3
      have HB3 : Hid (Below b w1 w3) := HB.out.trans hb3
      have R := (HC.out _ HB3.out).1
      have q1 := blk_cell R 1
      simp only [List.getElem?_toArray, List.getElem?_cons_zero, List.getElem?_cons_succ] at q1
      clear R hn3 hb3 HCC HN HB
      go_wp2
      clear q1
      go_loopw [8, 42] (fun _ i wr => ∃ k : Nat, i = .int .i64 (k : Int) ∧ k ≤ m ∧ Hid (Bw b wr (P ++ (cs.take k).flatMap St.cbytes)) ∧ Hid (Below b w1 wr)) (fun _ i _ => m - (intOf i).toNat)
      case atStart => exact ⟨0, rfl, by omega, HN3.out, HB3.out⟩
      case round =>
        clear HN3 HB3
        obtain ⟨k2, rfl, hk2, HN, HB⟩ := hrel
        obtain ⟨R, hbw2⟩ := HC.out _ HB.out
        have q2 := blk_cell R 2
        simp only [List.getElem?_toArray, List.getElem?_cons_zero, List.getElem?_cons_succ] at q2
        clear R
        have hbs2 : b < wr.heap.size := by
          rcases HN.out with h | h
          · exact h.lt
          · exact h.lt
        have hS2l : (P ++ (cs.take k2).flatMap St.cbytes).length ≤ 260000 := by have := HTB.out k2; rw [List.length_append]; omega
        by_cases hlt2 : k2 < m
        · have e0 : decide ((k2 : Int) < (m : Int)) = true := decide_eq_true (by omega)
          have hk3 : (k2 : Int) < (m : Int) := by omega
          obtain ⟨lb, p2, rfl, -, c0, c1, c2⟩ := (HT.out _ hbw2).2.row HM.out.1.symm hlt2
          obtain ⟨z8, z40, z41⟩ := HI.out k2 hlt2
          have HNX : Hid (P ++ (cs.take (k2 + 1)).flatMap St.cbytes = (P ++ (cs.take k2).flatMap St.cbytes) ++ [(cs.getD k2 Cl.no).name, (cs.getD k2 Cl.no).key, (cs.getD k2 Cl.no).val].flatMap Cd.short) := by
            show _ = _
            rw [Cd.take_flat St.cbytes cs Cl.no k2 (by rw [← HM.out.1]; exact hlt2), List.append_assoc]
            simp [St.cbytes]
          generalize (cs.getD k2 Cl.no).name = nm at *
          generalize (cs.getD k2 Cl.no).key = ky at *
          generalize (cs.getD k2 Cl.no).val = vl at *
          obtain ⟨U, hU⟩ : ∃ U, U = (wr.alloc (.cells #[.string nm, .string ky, .string vl] 50)).alloc (.cells #[.string nm, .string ky, .string vl] 9) := ⟨_, rfl⟩
          have hUb : Below wr.heap.size wr U := by rw [hU]; exact ((Below.refl _ _).alloc (Nat.le_refl _) _).alloc (by simp) _
          have RX : U.heap[wr.heap.size + 1]? = some (.cells #[.string nm, .string ky, .string vl] 9 (0, 0)) := by
            rw [hU]
            have := heap_alloc_new (wr.alloc (.cells #[.string nm, .string ky, .string vl] 50)) (.cells #[.string nm, .string ky, .string vl] 9)
            rwa [show (wr.alloc (.cells #[.string nm, .string ky, .string vl] 50)).heap.size = wr.heap.size + 1 by simp] at this
          have C := bwShorts b _ [nm, ky, vl] (wr.heap.size + 1) 3 _ 9 U (HN.out.keep hUb) RX (by decide) (by omega) (by intro i hi; match i, hi with | 0, _ => rfl | 1, _ => rfl | 2, _ => rfl) (by simp) (by intro i hi; match i, hi with | 0, _ => exact (by omega : nm.size ≤ 3000) | 1, _ => exact (by omega : ky.size ≤ 3000) | 2, _ => exact (by omega : vl.size ≤ 3000)) (by omega)
          rw [← HNX.out] at C
          have HCC : Hid (Calls Try.prog 16 #[.pointer (some ⟨b, 0, none⟩), .slice (some ⟨wr.heap.size + 1, 0, none⟩) 3 3] U fun e w' => e = .returned (.tuple #[]) ∧ Bw b w' (P ++ (cs.take (k2 + 1)).flatMap St.cbytes) ∧ Below b U w' ∧ Ok5 b U w') := C
          have HBU : Hid (Below b w1 U) := HB.out.trans (hUb.mono (by omega))
          clear C HNX hUb RX HN HB z8 z40 z41 hS2l q2
          go_wp2_with fail
          rw [← hU]
          clear hU
          refine HCC.out.mono ?_
          rintro e w3 ⟨rfl, hn3, hb3, -⟩
          have HN3 : Hid (Bw b w3 (P ++ (cs.take (k2 + 1)).flatMap St.cbytes)) := hn3
          have HB3 : Hid (Below b w1 w3) := HBU.out.trans hb3
          clear hn3 hb3 HCC HBU c0 c1 c2
          go_wp2
          go_roundw
          case rel => exact ⟨k2 + 1, by go_num, by omega, HN3.out, HB3.out⟩
          case measure => simp [intOf]; omega
        · have HKK2 : Hid (k2 = m) := (by omega : k2 = m)
          have e0 : decide ((k2 : Int) < (m : Int)) = false := decide_eq_false (by omega)
          obtain ⟨S2, hS2⟩ : ∃ S2, S2 = P ++ cs.flatMap St.cbytes := ⟨_, rfl⟩
          have HS3 : Hid (P ++ (cs.take k2).flatMap St.cbytes = S2) := by show _ = _; rw [hS2, HKK2.out, HM.out.1, List.take_length]
          rw [HS3.out] at HN hS2l
          have HBY3 : Hid (S2 ++ Cd.short o = BY) := by show _ = _; rw [HBY2.out, hS2]
          have hA := CS.out wr S2 o HN.out (by omega) HO3.out
          rw [HBY3.out] at hA
          have HCA : Hid (Calls Try.prog 17 #[.pointer (some ⟨b, 0, none⟩), .string o] wr fun e w' => e = .returned (.tuple #[]) ∧ Bw b w' BY ∧ Below b wr w') := hA
          have hBYl : BY.length ≤ 1000000 ∧ BY ≠ [] := by
            rw [← HBY3.out]
            refine ⟨by rw [List.length_append]; omega, fun e => ?_⟩
            have e2 := congrArg List.length e
            rw [List.length_append] at e2
            have h1 : 0 < (Pl.vb 8 o.size).length := vb8_pos o.size
            unfold Cd.short at e2
            rw [List.length_append, List.length_nil] at e2
            omega
          clear hA hS2 HS3 HBY2 hbw2 HN HBY3 hS2l
          go_wp2_with fail
          refine HCA.out.mono ?_
          rintro e w5 ⟨rfl, hn5, hb5⟩
          have HCT : Hid (Calls Try.prog 18 #[.pointer (some ⟨b, 0, none⟩)] w5 fun e w' => e = .returned (.string ⟨BY.toArray⟩) ∧ Below b w5 w') := bwText b BY w5 hn5 hBYl.2 hBYl.1
          have HB5 : Hid (Below b w1 w5) := HB.out.trans hb5
          clear hn5 hb5 HCA q2 HB
          go_wp2_with fail
          refine HCT.out.mono ?_
          rintro e w6 ⟨rfl, hb6⟩
          have HB6 : Hid (Below w.heap.size w w6) := (HC.out _ (HB5.out.trans hb6)).2
          clear hb6 HCT
          go_wp2
          go_ret2
          exact ⟨by rw [HF.out]; rfl, HB6.out⟩
end PartStI
section PartBig
open Go.RowKit
set_option maxHeartbeats 400000 in
theorem big_any (ad : Option Addr) (n cap : Nat) (w : World) : Calls Try.prog 4 #[.slice ad n cap] w fun e w' => e = .returned (.bool (decide ((1048576 : Int) < (n : Int)))) ∧ w' = w := by
  go_enter Try.func4, Try.ntmps4
  go_wp2
  go_ret
  exact ⟨rfl, rfl⟩
theorem big_yes (ad : Option Addr) (n cap : Nat) (h : 1048576 < n) : ∀ w, Calls Try.prog 4 #[.slice ad n cap] w fun e w' => e = .returned (.bool true) ∧ w' = w := fun w => by
  have := big_any ad n cap w
  rwa [show decide ((1048576 : Int) < (n : Int)) = true by simp; omega] at this
theorem big_no (ad : Option Addr) (n cap : Nat) (h : ¬ 1048576 < n) : ∀ w, Calls Try.prog 4 #[.slice ad n cap] w fun e w' => e = .returned (.bool false) ∧ w' = w := fun w => by
  have := big_any ad n cap w
  rwa [show decide ((1048576 : Int) < (n : Int)) = false by simp; omega] at this
end PartBig
end Go.Proofs.Ytmofljfffcnlbaa
