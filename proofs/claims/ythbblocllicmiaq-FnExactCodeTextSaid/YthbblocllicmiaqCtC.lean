/- Code in bytes: the program's CodeText. -/
import Derived.Test.YthbblocllicmiaqCtB
import Derived.Test.YthbblocllicmiaqCdI
import Derived.Test.YthbblocllicmiaqBwB
namespace Go.Proofs.Ythbblocllicmiaq
open Go.RowKit

theorem vb8_pos (n : Nat) : 0 < (Pl.vb 8 n).length := by
  by_cases h : 127 < n
  · rw [Pl.vb_more 7 n h]; simp
  · rw [Pl.vb_last 8 n h]; simp

set_option maxHeartbeats 4000000 in
set_option maxRecDepth 100000 in
theorem implCodeText (tv lv : Value) (bg ln en : Int) (ts : List ByteArray) (xs : List Ins) (w : World) (h : TsAt w tv ts) (hl : InsAt w lv xs) (hs : TsSmall ts ts.length) (hk : ts.length ≤ 1048576) (hx : xs.length ≤ 1048576) :
    Calls Try.prog 12 #[.agg #[tv, lv, .int .i64 bg, .int .i64 ln, .int .i64 en]] w fun e w' => e = .returned (Cd.text? ts xs bg ln en) ∧ Below w.heap.size w w' := by
  obtain ⟨V, hV⟩ : ∃ V, V = Cd.ok ts xs bg ln en := ⟨_, rfl⟩
  have CO : Hid (∀ W, Below w.heap.size w W → Calls Try.prog 9 #[.agg #[tv, lv, .int .i64 bg, .int .i64 ln, .int .i64 en]] W fun e w' => e = .returned (.bool V) ∧ Below W.heap.size W w') := fun W hb => by rw [hV]; exact implCodeOk tv lv bg ln en ts xs W (h.keep hb) (hl.keep hb) hs hk hx
  have HT : Hid (∀ W, Below w.heap.size w W → TsAt W tv ts ∧ InsAt W lv xs) := fun W hb => ⟨h.keep hb, hl.keep hb⟩
  obtain ⟨ta, tc, rfl, -⟩ := h
  obtain ⟨la, lc, rfl, -⟩ := hl
  obtain ⟨m, hm⟩ : ∃ m, m = xs.length := ⟨_, rfl⟩
  obtain ⟨n, hn⟩ : ∃ n, n = ts.length := ⟨_, rfl⟩
  have HM : Hid (m = xs.length ∧ n = ts.length) := ⟨hm, hn⟩
  rw [← hm, ← hn] at HT CO ⊢
  clear hm hn hs
  have HB0 : Hid (Below w.heap.size w (w.alloc (.cells #[.slice ta n tc, .slice la m lc, .int .i64 bg, .int .i64 ln, .int .i64 en] 30))) := (Below.refl _ _).alloc (Nat.le_refl _) _
  have HR0 : Hid ((w.alloc (.cells #[.slice ta n tc, .slice la m lc, .int .i64 bg, .int .i64 ln, .int .i64 en] 30)).heap[w.heap.size]? = some (.cells #[.slice ta n tc, .slice la m lc, .int .i64 bg, .int .i64 ln, .int .i64 en] 30 (0, 0))) := heap_alloc_new _ _
  have hz : w.heap.size < (w.alloc (.cells #[.slice ta n tc, .slice la m lc, .int .i64 bg, .int .i64 ln, .int .i64 en] 30)).heap.size := by simp
  go_enter Try.func12, Try.ntmps12
  go_wp2_with fail
  generalize w.alloc (.cells #[.slice ta n tc, .slice la m lc, .int .i64 bg, .int .i64 ln, .int .i64 en] 30) = W0 at *
  refine (CO.out _ HB0.out).mono ?_
  rintro e w1 ⟨rfl, hb1⟩
  have HW1 : Hid (Below w.heap.size w w1) := HB0.out.trans (hb1.mono HB0.out.size)
  have HR1 : Hid (w1.heap[w.heap.size]? = some (.cells #[.slice ta n tc, .slice la m lc, .int .i64 bg, .int .i64 ln, .int .i64 en] 30 (0, 0))) := (hb1.block _ hz).trans HR0.out
  have hz1 : w.heap.size < w1.heap.size := Nat.lt_of_lt_of_le hz hb1.size
  clear hb1 CO HR0 HB0 hz
  cases V
  · have HF : Hid (Cd.text? ts xs bg ln en = .tuple #[.string ⟨#[]⟩, .bool false]) := by show _ = _; unfold Cd.text?; rw [← hV]; rfl
    clear hV
    go_wp2
    go_ret2
    exact ⟨by rw [HF.out]; rfl, HW1.out⟩
  obtain ⟨BY, hBY⟩ : ∃ BY, BY = Cd.bytes ts xs ln en := ⟨_, rfl⟩
  have HF : Hid (Cd.text? ts xs bg ln en = .tuple #[.string ⟨BY.toArray⟩, .bool true]) := by show _ = _; unfold Cd.text?; rw [← hV, hBY]; rfl
  obtain ⟨g1, g2, g3, rfl, g5, g6, -, -, -⟩ := Cd.ok_facts hV.symm
  have HG : Hid (∀ i, i < n → (ts.getD i ByteArray.empty).size ≤ 30) := by rw [HM.out.2]; exact g1
  have HI : Hid (∀ k, k < m → (0 ≤ (xs.getD k Ins.no).op ∧ (xs.getD k Ins.no).op ≤ 255) ∧ 0 ≤ (xs.getD k Ins.no).arg ∧ (xs.getD k Ins.no).arg ≤ 255) := by rw [HM.out.1]; exact fun k hk => Cd.ok_ins hV.symm k hk
  rw [← HM.out.2] at g2
  rw [← HM.out.1] at g3 g5 g6
  obtain ⟨l, rfl⟩ : ∃ l : Nat, ln = (l : Int) := ⟨ln.toNat, by omega⟩
  obtain ⟨u, rfl⟩ : ∃ u : Nat, en = (u : Int) := ⟨en.toNat, by omega⟩
  have HBY : Hid (BY = Pl.vb 8 n ++ ts.flatMap Cd.short ++ Pl.vb 8 m ++ xs.flatMap Cd.two ++ Pl.vb 8 l ++ Pl.vb 8 u) := by show _ = _; rw [hBY, HM.out.1, HM.out.2]; rfl
  have HLB : Hid (∀ k, (Pl.vb 8 n ++ (ts.take k).flatMap Cd.short).length ≤ 3000) := by
    intro k
    have h1 := l01_bytes n
    have h2 := Cd.flat_le Cd.short 39 (ts.take k) (fun x hx => by
      obtain ⟨i, hi, e⟩ := List.mem_iff_getElem.1 (List.mem_of_mem_take hx)
      have h3 := g1 i hi
      rw [List.getD_eq_getElem?_getD, List.getElem?_eq_getElem hi] at h3
      have h4 := l01_bytes x.size
      have h5 : x.data.toList.length = x.size := by simp
      unfold Cd.short
      rw [List.length_append, h5, ← e]
      rw [← e] at h4
      simp only [Option.getD_some] at h3
      omega)
    have h6 : (ts.take k).length ≤ 60 := by have := HM.out.2; rw [List.length_take]; omega
    rw [List.length_append]
    omega
  have HTB : Hid (∀ k, ((xs.take k).flatMap Cd.two).length ≤ 500) := by
    intro k
    have h2 := Cd.flat_le Cd.two 2 (xs.take k) (fun x _ => by simp [Cd.two])
    have h6 : (xs.take k).length ≤ 250 := by have := HM.out.1; rw [List.length_take]; omega
    omega
  have hvm := l01_bytes m
  have hvl := l01_bytes l
  have hvu := l01_bytes u
  clear g1 hV hBY hx hk
  obtain ⟨b, hb⟩ : ∃ b, b = w1.heap.size := ⟨_, rfl⟩
  have HN0 : Hid (Bw b (w1.alloc (.cells #[.pointer none, .slice none 0 0] 62)) []) := by rw [hb]; exact Bw.new w1
  have HBN : Hid (Below b w1 (w1.alloc (.cells #[.pointer none, .slice none 0 0] 62))) := (Below.refl _ _).alloc (by omega) _
  have HC : Hid (∀ W, Below b w1 W → W.heap[w.heap.size]? = some (.cells #[.slice ta n tc, .slice la m lc, .int .i64 0, .int .i64 (l : Int), .int .i64 (u : Int)] 30 (0, 0)) ∧ Below w.heap.size w W) := fun W hb' => ⟨(hb'.block _ (by omega)).trans HR1.out, HW1.out.trans (hb'.mono (by omega))⟩
  have CN : Hid (∀ (W : World) (L : List UInt8) (k : Nat), Bw b W L → L.length ≤ 10000 → k ≤ 250 → Calls Try.prog 30 #[.pointer (some ⟨b, 0, none⟩), .int .i64 (k : Int)] W fun e w' => e = .returned (.tuple #[]) ∧ Bw b w' (L ++ Pl.vb 8 k) ∧ Below b W w') := fun W L k h1 h2 h3 => bwNumber b L k W h1 (by omega) (by omega)
  have CS : Hid (∀ (W : World) (L : List UInt8) (t : ByteArray), Bw b W L → L.length ≤ 10000 → t.size ≤ 30 → Calls Try.prog 31 #[.pointer (some ⟨b, 0, none⟩), .string t] W fun e w' => e = .returned (.tuple #[]) ∧ Bw b w' (L ++ Cd.short t) ∧ Below b W w') := fun W L k h1 h2 h3 => bwShort b L k W h1 (by omega) (by omega)
  have CB : Hid (∀ (W : World) (L : List UInt8) (k : Nat), Bw b W L → L.length ≤ 10000 → k ≤ 255 → Calls Try.prog 32 #[.pointer (some ⟨b, 0, none⟩), .int .i64 (k : Int)] W fun e w' => e = .returned (.tuple #[]) ∧ Bw b w' (L ++ [UInt8.ofNat k]) ∧ Below b W w' ∧ Ok5 b W w') := fun W L k h1 h2 h3 => bwOne b L k W h1 (by omega) h3
  have R := (HC.out _ HBN.out).1
  have q0 := blk_cell R 0
  simp only [List.getElem?_toArray, List.getElem?_cons_zero] at q0
  clear R
  have hbw : b ≤ (w1.alloc (.cells #[.pointer none, .slice none 0 0] 62)).heap.size := by simp; omega
  go_wp2_with fail
  rw [← hb] at *
  generalize w1.alloc (.cells #[.pointer none, .slice none 0 0] 62) = W1 at *
  refine (CN.out _ [] n HN0.out (by simp) (by omega)).mono ?_
  rintro e w2 ⟨rfl, hn2, hb2⟩
  have HN2 : Hid (Bw b w2 (Pl.vb 8 n ++ (ts.take 0).flatMap Cd.short)) := by
    have : Pl.vb 8 n ++ (ts.take 0).flatMap Cd.short = [] ++ Pl.vb 8 n := by simp
    rw [this]
    exact hn2
  have HB2 : Hid (Below b w1 w2) := HBN.out.trans hb2
  have R := (HC.out _ HB2.out).1
  have q0 := blk_cell R 0
  simp only [List.getElem?_toArray, List.getElem?_cons_zero] at q0
  clear R hn2 hb2 HN0 HBN
  go_wp2
  clear q0
  go_loopw [6, 22] (fun _ i wr => ∃ k : Nat, i = .int .i64 (k : Int) ∧ k ≤ n ∧ Hid (Bw b wr (Pl.vb 8 n ++ (ts.take k).flatMap Cd.short)) ∧ Hid (Below b w1 wr)) (fun _ i _ => n - (intOf i).toNat)
  case atStart => exact ⟨0, rfl, by omega, HN2.out, HB2.out⟩
  case round =>
    clear HN2 HB2
    obtain ⟨k, rfl, hk, HN, HB⟩ := hrel
    obtain ⟨R, hbw2⟩ := HC.out _ HB.out
    have q1 := blk_cell R 1
    simp only [List.getElem?_toArray, List.getElem?_cons_zero, List.getElem?_cons_succ] at q1
    clear R
    by_cases hlt : k < n
    · have d0 : decide ((k : Int) < (n : Int)) = true := decide_eq_true (by omega)
      have hk1 : (k : Int) < (n : Int) := by omega
      obtain ⟨tb, o, rfl, c0⟩ := (HT.out _ hbw2).1.cell HM.out.2 hlt
      have h30 := HG.out k hlt
      have hSl := HLB.out k
      have HNX : Hid (Pl.vb 8 n ++ (ts.take (k + 1)).flatMap Cd.short = (Pl.vb 8 n ++ (ts.take k).flatMap Cd.short) ++ Cd.short (ts.getD k ByteArray.empty)) := by
        show _ = _
        rw [Cd.take_flat Cd.short ts ByteArray.empty k (by rw [← HM.out.2]; exact hlt), List.append_assoc]
      have C := CS.out wr _ (ts.getD k ByteArray.empty) HN.out (by omega) h30
      rw [← HNX.out] at C
      have HCC : Hid (Calls Try.prog 31 #[.pointer (some ⟨b, 0, none⟩), .string (ts.getD k ByteArray.empty)] wr fun e w' => e = .returned (.tuple #[]) ∧ Bw b w' (Pl.vb 8 n ++ (ts.take (k + 1)).flatMap Cd.short) ∧ Below b wr w') := C
      clear C HNX hbw2
      generalize ts.getD k ByteArray.empty = t at *
      go_wp2_with fail
      refine HCC.out.mono ?_
      rintro e w3 ⟨rfl, hn3, hb3⟩
      have HN3 : Hid (Bw b w3 (Pl.vb 8 n ++ (ts.take (k + 1)).flatMap Cd.short)) := hn3
      have HB3 : Hid (Below b w1 w3) := HB.out.trans hb3
      clear hn3 hb3 HCC HN HB
      go_wp2
      go_roundw
      case rel => exact ⟨k + 1, by go_num, by omega, HN3.out, HB3.out⟩
      case measure => simp [intOf]; omega
    · have HKK : Hid (k = n) := (by omega : k = n)
      have d0 : decide ((k : Int) < (n : Int)) = false := decide_eq_false (by omega)
      obtain ⟨S, hS⟩ : ∃ S, S = Pl.vb 8 n ++ ts.flatMap Cd.short := ⟨_, rfl⟩
      have HS2 : Hid (Pl.vb 8 n ++ (ts.take k).flatMap Cd.short = S) := by show _ = _; rw [hS, HKK.out, HM.out.2, List.take_length]
      have hSl := HLB.out k
      rw [HS2.out] at HN hSl
      have HBY2 : Hid (BY = S ++ Pl.vb 8 m ++ xs.flatMap Cd.two ++ Pl.vb 8 l ++ Pl.vb 8 u) := by show _ = _; rw [hS]; exact HBY.out
      have C := CN.out wr S m HN.out (by omega) g3
      obtain ⟨P, hP⟩ : ∃ P, P = S ++ Pl.vb 8 m := ⟨_, rfl⟩
      have hPl : P.length ≤ 3100 := by rw [hP, List.length_append]; omega
      rw [← hP] at C HBY2
      have HCC : Hid (Calls Try.prog 30 #[.pointer (some ⟨b, 0, none⟩), .int .i64 (m : Int)] wr fun e w' => e = .returned (.tuple #[]) ∧ Bw b w' P ∧ Below b wr w') := C
      clear hS HS2 HBY hbw2 C hP hSl
      go_wp2_with fail
      refine HCC.out.mono ?_
      rintro e w3 ⟨rfl, hn3, hb3⟩
      have HN3 : Hid (Bw b w3 (P ++ (xs.take 0).flatMap Cd.two)) := by
        have : P ++ (xs.take 0).flatMap Cd.two = P := by simp
        rw [this]
        exact hn3
      have HB3 : Hid (Below b w1 w3) := HB.out.trans hb3
      have R := (HC.out _ HB3.out).1
      have q1 := blk_cell R 1
      simp only [List.getElem?_toArray, List.getElem?_cons_zero, List.getElem?_cons_succ] at q1
      clear R hn3 hb3 HCC HN HB
      go_wp2
      clear q1
      go_loopw [8, 38] (fun _ i wr => ∃ k : Nat, i = .int .i64 (k : Int) ∧ k ≤ m ∧ Hid (Bw b wr (P ++ (xs.take k).flatMap Cd.two)) ∧ Hid (Below b w1 wr)) (fun _ i _ => m - (intOf i).toNat)
      case atStart => exact ⟨0, rfl, by omega, HN3.out, HB3.out⟩
      case round =>
        clear HN3 HB3
        obtain ⟨k2, rfl, hk2, HN, HB⟩ := hrel
        obtain ⟨R, hbw2⟩ := HC.out _ HB.out
        have q3 := blk_cell R 3
        have q4 := blk_cell R 4
        simp only [List.getElem?_toArray, List.getElem?_cons_zero, List.getElem?_cons_succ] at q3 q4
        clear R
        have hS2l : (P ++ (xs.take k2).flatMap Cd.two).length ≤ 3600 := by have := HTB.out k2; rw [List.length_append]; omega
        have hbs : b < wr.heap.size := by
          rcases HN.out with h | h
          · exact h.lt
          · exact h.lt
        by_cases hlt2 : k2 < m
        · have e0 : decide ((k2 : Int) < (m : Int)) = true := decide_eq_true (by omega)
          have hk3 : (k2 : Int) < (m : Int) := by omega
          obtain ⟨lb, lo, rfl, hlb, x0, x1⟩ := (HT.out _ hbw2).2.cell HM.out.1 hlt2
          obtain ⟨⟨i1, i2⟩, i3, i4⟩ := HI.out k2 hlt2
          have HNX : Hid (P ++ (xs.take (k2 + 1)).flatMap Cd.two = ((P ++ (xs.take k2).flatMap Cd.two) ++ [UInt8.ofNat (xs.getD k2 Ins.no).op.toNat]) ++ [UInt8.ofNat (xs.getD k2 Ins.no).arg.toNat]) := by
            show _ = _
            rw [Cd.take_flat Cd.two xs Ins.no k2 (by rw [← HM.out.1]; exact hlt2)]
            simp [Cd.two]
          generalize xs.getD k2 Ins.no = x at *
          obtain ⟨op, arg⟩ := x
          simp only at x0 x1 i1 i2 i3 i4 HNX
          obtain ⟨y, rfl⟩ : ∃ y : Nat, op = (y : Int) := ⟨op.toNat, by omega⟩
          obtain ⟨z, rfl⟩ : ∃ z : Nat, arg = (z : Int) := ⟨arg.toNat, by omega⟩
          rw [Int.toNat_natCast, Int.toNat_natCast] at HNX
          have HBA : Hid (Below wr.heap.size wr (wr.alloc (.cells #[.int .i64 (y : Int), .int .i64 (z : Int)] 55))) := (Below.refl _ _).alloc (Nat.le_refl _) _
          have RX := heap_alloc_new wr (.cells #[.int .i64 (y : Int), .int .i64 (z : Int)] 55)
          have HRX : Hid _ := RX
          have hxx : wr.heap.size < (wr.alloc (.cells #[.int .i64 (y : Int), .int .i64 (z : Int)] 55)).heap.size := by simp
          have HNA : Hid (Bw b (wr.alloc (.cells #[.int .i64 (y : Int), .int .i64 (z : Int)] 55)) (P ++ (xs.take k2).flatMap Cd.two)) := HN.out.keep HBA.out
          have HBB : Hid (Below b w1 (wr.alloc (.cells #[.int .i64 (y : Int), .int .i64 (z : Int)] 55))) := HB.out.trans (HBA.out.mono (by omega))
          have yx0 := blk_cell RX 0
          have yx1 := blk_cell RX 1
          simp only [List.getElem?_toArray, List.getElem?_cons_zero, List.getElem?_cons_succ] at yx0 yx1
          have hA := CB.out _ _ y HNA.out (by omega) (by omega)
          have HCA : Hid (Calls Try.prog 32 #[.pointer (some ⟨b, 0, none⟩), .int .i64 (y : Int)] (wr.alloc (.cells #[.int .i64 (y : Int), .int .i64 (z : Int)] 55)) fun e w' => e = .returned (.tuple #[]) ∧ Bw b w' ((P ++ (xs.take k2).flatMap Cd.two) ++ [UInt8.ofNat y]) ∧ Below b (wr.alloc (.cells #[.int .i64 (y : Int), .int .i64 (z : Int)] 55)) w' ∧ Ok5 b (wr.alloc (.cells #[.int .i64 (y : Int), .int .i64 (z : Int)] 55)) w') := hA
          clear RX hA HN HB hbw2 HBA
          go_wp2_with fail
          generalize wr.alloc (.cells #[.int .i64 (y : Int), .int .i64 (z : Int)] 55) = U at *
          refine HCA.out.mono ?_
          rintro e w4 ⟨rfl, hn4, hb4, ho4⟩
          have hB := CB.out _ _ z hn4 (by rw [List.length_append]; simp only [List.length_singleton]; omega) (by omega)
          rw [← HNX.out] at hB
          have HCB : Hid (Calls Try.prog 32 #[.pointer (some ⟨b, 0, none⟩), .int .i64 (z : Int)] w4 fun e w' => e = .returned (.tuple #[]) ∧ Bw b w' (P ++ (xs.take (k2 + 1)).flatMap Cd.two) ∧ Below b w4 w' ∧ Ok5 b w4 w') := hB
          have HB4 : Hid (Below b w1 w4) := HBB.out.trans hb4
          have RX4 := ho4 _ _ _ _ HRX.out (by decide) (by omega)
          have yz1 := blk_cell RX4 1
          simp only [List.getElem?_toArray, List.getElem?_cons_zero, List.getElem?_cons_succ] at yz1
          clear hB hn4 ho4 hb4 HCA HNA HNX yx0 yx1 RX4
          go_wp2_with fail
          refine HCB.out.mono ?_
          rintro e w5 ⟨rfl, hn5, hb5, -⟩
          have HN5 : Hid (Bw b w5 (P ++ (xs.take (k2 + 1)).flatMap Cd.two)) := hn5
          have HB5 : Hid (Below b w1 w5) := HB4.out.trans hb5
          clear hn5 hb5 HCB
          go_wp2
          go_roundw
          case rel => exact ⟨k2 + 1, by go_num, by omega, HN5.out, HB5.out⟩
          case measure => simp [intOf]; omega
        · have HKK2 : Hid (k2 = m) := (by omega : k2 = m)
          have e0 : decide ((k2 : Int) < (m : Int)) = false := decide_eq_false (by omega)
          obtain ⟨S2, hS2⟩ : ∃ S2, S2 = P ++ xs.flatMap Cd.two := ⟨_, rfl⟩
          have HS3 : Hid (P ++ (xs.take k2).flatMap Cd.two = S2) := by show _ = _; rw [hS2, HKK2.out, HM.out.1, List.take_length]
          rw [HS3.out] at HN hS2l
          have HBY3 : Hid ((S2 ++ Pl.vb 8 l) ++ Pl.vb 8 u = BY) := by show _ = _; rw [HBY2.out, hS2]
          have hA := CN.out wr S2 l HN.out (by omega) (by omega)
          have HCA : Hid (Calls Try.prog 30 #[.pointer (some ⟨b, 0, none⟩), .int .i64 (l : Int)] wr fun e w' => e = .returned (.tuple #[]) ∧ Bw b w' (S2 ++ Pl.vb 8 l) ∧ Below b wr w') := hA
          clear hA hS2 HS3 HBY2 hbw2 HN
          go_wp2_with fail
          refine HCA.out.mono ?_
          rintro e w4 ⟨rfl, hn4, hb4⟩
          have hB := CN.out w4 _ u hn4 (by rw [List.length_append]; omega) (by omega)
          rw [HBY3.out] at hB
          have HCB : Hid (Calls Try.prog 30 #[.pointer (some ⟨b, 0, none⟩), .int .i64 (u : Int)] w4 fun e w' => e = .returned (.tuple #[]) ∧ Bw b w' BY ∧ Below b w4 w') := hB
          have HB4 : Hid (Below b w1 w4) := HB.out.trans hb4
          have R := (HC.out _ HB4.out).1
          have q4' := blk_cell R 4
          simp only [List.getElem?_toArray, List.getElem?_cons_zero, List.getElem?_cons_succ] at q4'
          have hBYl : BY.length ≤ 1000000 ∧ BY ≠ [] := by
            rw [← HBY3.out]
            refine ⟨by rw [List.length_append, List.length_append]; omega, fun e => ?_⟩
            have e2 := congrArg List.length e
            rw [List.length_append, List.length_append] at e2
            have : 0 < (Pl.vb 8 u).length := vb8_pos u
            rw [List.length_nil] at e2
            omega
          clear R hB hn4 hb4 HCA q3 q4 HB HBY3
          go_wp2_with fail
          refine HCB.out.mono ?_
          rintro e w5 ⟨rfl, hn5, hb5⟩
          have HCT : Hid (Calls Try.prog 33 #[.pointer (some ⟨b, 0, none⟩)] w5 fun e w' => e = .returned (.string ⟨BY.toArray⟩) ∧ Below b w5 w') := bwText b BY w5 hn5 hBYl.2 hBYl.1
          have HB5 : Hid (Below b w1 w5) := HB4.out.trans hb5
          clear hn5 hb5 HCB q4' HB4
          go_wp2_with fail
          refine HCT.out.mono ?_
          rintro e w6 ⟨rfl, hb6⟩
          have HB6 : Hid (Below w.heap.size w w6) := (HC.out _ (HB5.out.trans hb6)).2
          clear hb6 HCT
          go_wp2
          go_ret2
          exact ⟨by rw [HF.out]; rfl, HB6.out⟩
#print axioms implCodeText
end Go.Proofs.Ythbblocllicmiaq
