/- Code in bytes: the specification of CodeText. Code in bytes: the specification of CodeText, whole. Plain facts, without the program: the sixteen figures, a text in figures, and back. Plain facts, without the program: what each figure of a text is worth, which is its place among the figures. -/
import Derived.Test.YtehagonaacbmiaaGreatMPRjZaj
import Derived.Test.YtehagonaacbmiaaGreatMPRjZak
import Derived.Deep.RegionWith
import Derived.Test.YtehagonaacbmiaaGreatMPRjZac
namespace Go.Proofs.YtehagonaacbmiaaGreat
section PartCtA
open Go.RowKit

namespace Cd
def short (t : ByteArray) : List UInt8 := Pl.vb 8 t.size ++ t.data.toList
def two (x : Ins) : List UInt8 := [UInt8.ofNat x.op.toNat, UInt8.ofNat x.arg.toNat]
/-- The bytes of right code. -/
def bytes (ts : List ByteArray) (xs : List Ins) (ln en : Int) : List UInt8 :=
  Pl.vb 8 ts.length ++ ts.flatMap short ++ Pl.vb 8 xs.length ++ xs.flatMap two ++ Pl.vb 8 ln.toNat ++ Pl.vb 8 en.toNat
/-- What CodeText answers. -/
def text? (ts : List ByteArray) (xs : List Ins) (bg ln en : Int) : Value :=
  if ok ts xs bg ln en = true then .tuple #[.string ⟨(bytes ts xs ln en).toArray⟩, .bool true] else .tuple #[.string ⟨#[]⟩, .bool false]
theorem take_flat {α : Type} (f : α → List UInt8) (l : List α) (d : α) (k : Nat) (h : k < l.length) : (l.take (k + 1)).flatMap f = (l.take k).flatMap f ++ f (l.getD k d) := by
  rw [List.take_add_one, List.getElem?_eq_getElem h, List.flatMap_append]
  congr 1
  simp [h]
theorem flat_le {α : Type} (f : α → List UInt8) (m : Nat) : ∀ (l : List α), (∀ x ∈ l, (f x).length ≤ m) → (l.flatMap f).length ≤ m * l.length
  | [], _ => by simp
  | x :: l, h => by
    have h1 := h x (by simp)
    have h2 := flat_le f m l (fun y hy => h y (by simp [hy]))
    simp only [List.flatMap_cons, List.length_append, List.length_cons]
    rw [Nat.mul_add]
    omega
/-- What right code holds. -/
theorem ok_facts {ts : List ByteArray} {xs : List Ins} {bg ln en : Int} (h : ok ts xs bg ln en = true) :
    (∀ i, i < ts.length → (ts.getD i ByteArray.empty).size ≤ 30) ∧ ts.length ≤ 60 ∧ xs.length ≤ 250 ∧ bg = 0 ∧ (0 ≤ ln ∧ ln ≤ (xs.length : Int)) ∧ (ln ≤ en ∧ en ≤ (xs.length : Int)) ∧
    part ts xs 0 ln.toNat = true ∧ part ts xs ln.toNat en.toNat = true ∧ part ts xs en.toNat xs.length = true := by
  unfold ok at h
  simp only [Bool.and_eq_true, decide_eq_true_eq, List.all_eq_true] at h
  obtain ⟨h1, h2, h3, h4, h5, h6, h7, h8, h9⟩ := h
  refine ⟨fun i hi => ?_, h2, h3, h4, h5, h6, h7, h8, h9⟩
  rw [List.getD_eq_getElem?_getD, List.getElem?_eq_getElem hi]
  exact h1 _ (List.getElem_mem _)
theorem allI_at {ts : List ByteArray} {xs : List Ins} {to : Nat} : ∀ (f a : Nat), allI ts xs to f a = true → ∀ k, a ≤ k → k < a + f → ins ts (xs.getD k Ins.no) (k : Int) (to : Int) = true
  | 0, a, _, k, h1, h2 => by omega
  | f + 1, a, h, k, h1, h2 => by
    simp only [allI, Bool.and_eq_true] at h
    by_cases e : k = a
    · subst e; exact h.1
    · exact allI_at f (a + 1) h.2 k (by omega) (by omega)
theorem part_at {ts : List ByteArray} {xs : List Ins} {fr to : Nat} (hf : fr ≤ to) (h : part ts xs fr to = true) : ∀ k, fr ≤ k → k < to → ins ts (xs.getD k Ins.no) (k : Int) (to : Int) = true := by
  rw [part_same ts xs fr to hf] at h
  unfold partI at h
  simp only [Bool.and_eq_true] at h
  intro k h1 h2
  exact allI_at _ _ h.1 k h1 (by omega)
theorem ok_ins {ts : List ByteArray} {xs : List Ins} {bg ln en : Int} (h : ok ts xs bg ln en = true) (k : Nat) (hk : k < xs.length) : (0 ≤ (xs.getD k Ins.no).op ∧ (xs.getD k Ins.no).op ≤ 255) ∧ 0 ≤ (xs.getD k Ins.no).arg ∧ (xs.getD k Ins.no).arg ≤ 255 := by
  obtain ⟨_, _, _, _, h5, h6, h7, h8, h9⟩ := ok_facts h
  have key : ∃ to : Nat, ins ts (xs.getD k Ins.no) (k : Int) (to : Int) = true := by
    by_cases h1 : (k : Int) < ln
    · exact ⟨_, part_at (by omega) h7 k (by omega) (by omega)⟩
    · by_cases h2 : (k : Int) < en
      · exact ⟨_, part_at (by omega) h8 k (by omega) (by omega)⟩
      · exact ⟨_, part_at (by omega) h9 k (by omega) hk⟩
  obtain ⟨to, hi⟩ := key
  unfold ins at hi
  simp only [Bool.and_eq_true, decide_eq_true_eq] at hi
  omega
end Cd

set_option maxHeartbeats 1000000 in
set_option maxRecDepth 100000 in
theorem spShort7 (s : ByteArray) (w : World) (hs : s.size ≤ 20000) :
    Calls Tryz.prog 68 #[.string s] w fun e w' => e = .returned (.string ⟨(Cd.short s).toArray⟩) ∧ Below w.heap.size w w' := by
  have C : Hid (∀ W, Calls Tryz.prog 69 #[.int .i64 (s.size : Int)] W fun e w' => e = .returned (.string ⟨(Pl.vb 8 s.size).toArray⟩) ∧ Below W.heap.size W w') := fun W => l01Var_any s.size W (by omega)
  have hv := l01_bytes s.size
  have HS : Hid ((⟨(Pl.vb 8 s.size).toArray⟩ ++ s : ByteArray) = ⟨(Cd.short s).toArray⟩) := cat_list _ _
  generalize Pl.vb 8 s.size = V at *
  go_enter Tryz.func68, Tryz.ntmps68
  go_wp2_with (go_at_call 69; refine (C.out _).mono ?_; rintro e w2 ⟨rfl, hb2⟩)
  go_ret
  exact ⟨by rw [← HS.out]; rfl, hb2⟩
end PartCtA
section PartCtB
open Go.RowKit

theorem conv_two (c d : UInt8) (g : Nat) (w : World) (h : w.heap[g]? = some (.cells #[.int .u8 (c.toNat : Int), .int .u8 (d.toNat : Int)] 5 (0, 0))) : (convert 139 9 (.slice (some ⟨g, 0, none⟩) 2 2)).run Tryz.prog w = .ok (.string ⟨#[c, d]⟩) w := by
  have hr : Row g w (.slice (some ⟨g, 0, none⟩) 2 2) [c, d] := ⟨rfl, .inr ⟨g, 2, _, rfl, Nat.le_refl _, h, Nat.le_refl _, by unfold maxLen; omega, rfl, rfl⟩⟩
  exact hr.str
theorem keep2 {a b : Addr} {x y : Value} {w0 W W' : World} (hb : Below W.heap.size W W') (h : W.cell? a = some x ∧ W.cell? b = some y ∧ Hid (Below w0.heap.size w0 W)) : W'.cell? a = some x ∧ W'.cell? b = some y ∧ Hid (Below w0.heap.size w0 W') :=
  ⟨(hb.cell (World.block_lt_of_cell? _ _ h.1)).trans h.1, (hb.cell (World.block_lt_of_cell? _ _ h.2.1)).trans h.2.1, h.2.2.out.trans (hb.mono h.2.2.out.size)⟩

namespace Cd
theorem byte_of {z : Int} (h0 : 0 ≤ z) (h1 : z ≤ 255) : z = ((UInt8.ofNat z.toNat).toNat : Int) := by
  obtain ⟨n, rfl⟩ : ∃ n : Nat, z = (n : Int) := ⟨z.toNat, by omega⟩
  simp
  omega
end Cd

set_option maxHeartbeats 4000000 in
set_option maxRecDepth 100000 in
theorem spCodeText (tv lv : Value) (bg ln en : Int) (ts : List ByteArray) (xs : List Ins) (w : World) (h : TsAt w tv ts) (hl : InsAt w lv xs) (hs : TsSmall ts ts.length) (hk : ts.length ≤ 1048576) (hx : xs.length ≤ 1048576) :
    Calls Tryz.prog 64 #[.agg #[tv, lv, .int .i64 bg, .int .i64 ln, .int .i64 en]] w fun e w' => e = .returned (Cd.text? ts xs bg ln en) ∧ Below w.heap.size w w' := by
  obtain ⟨V, hV⟩ : ∃ V, V = Cd.ok ts xs bg ln en := ⟨_, rfl⟩
  have CO : Hid (∀ W, Below w.heap.size w W → Calls Tryz.prog 18 #[.agg #[tv, lv, .int .i64 bg, .int .i64 ln, .int .i64 en]] W fun e w' => e = .returned (.bool V) ∧ Below W.heap.size W w') := fun W hb => by rw [hV]; exact spCodeOk tv lv bg ln en ts xs W (h.keep hb) (hl.keep hb) hs hk hx
  have HT : Hid (∀ W, Below w.heap.size w W → TsAt W tv ts ∧ InsAt W lv xs) := fun W hb => ⟨h.keep hb, hl.keep hb⟩
  obtain ⟨ta, tc, rfl, -⟩ := h
  obtain ⟨la, lc, rfl, -⟩ := hl
  obtain ⟨m, hm⟩ : ∃ m, m = xs.length := ⟨_, rfl⟩
  obtain ⟨n, hn⟩ : ∃ n, n = ts.length := ⟨_, rfl⟩
  have HM : Hid (m = xs.length ∧ n = ts.length) := ⟨hm, hn⟩
  rw [← hm, ← hn] at HT CO ⊢
  clear hm hn hs
  have HB0 : Hid (Below w.heap.size w (w.alloc (.cells #[.slice ta n tc, .slice la m lc, .int .i64 bg, .int .i64 ln, .int .i64 en] 36))) := (Below.refl _ _).alloc (Nat.le_refl _) _
  have HR0 : Hid ((w.alloc (.cells #[.slice ta n tc, .slice la m lc, .int .i64 bg, .int .i64 ln, .int .i64 en] 36)).heap[w.heap.size]? = some (.cells #[.slice ta n tc, .slice la m lc, .int .i64 bg, .int .i64 ln, .int .i64 en] 36 (0, 0))) := heap_alloc_new _ _
  have hz : w.heap.size < (w.alloc (.cells #[.slice ta n tc, .slice la m lc, .int .i64 bg, .int .i64 ln, .int .i64 en] 36)).heap.size := by simp
  go_enter Tryz.func64, Tryz.ntmps64
  go_wp2_with fail
  generalize w.alloc (.cells #[.slice ta n tc, .slice la m lc, .int .i64 bg, .int .i64 ln, .int .i64 en] 36) = W0 at *
  have HC : Hid (∀ W, Below W0.heap.size W0 W → W.heap[w.heap.size]? = some (.cells #[.slice ta n tc, .slice la m lc, .int .i64 bg, .int .i64 ln, .int .i64 en] 36 (0, 0)) ∧ Below w.heap.size w W) := fun W hb => ⟨(hb.block _ hz).trans HR0.out, HB0.out.trans (hb.mono HB0.out.size)⟩
  refine (CO.out _ HB0.out).mono ?_
  rintro e w1 ⟨rfl, hb1⟩
  have HB1 : Hid (Below W0.heap.size W0 w1) := hb1
  clear hb1 CO HR0 HB0
  cases V
  · have HF : Hid (Cd.text? ts xs bg ln en = .tuple #[.string ⟨#[]⟩, .bool false]) := by show _ = _; unfold Cd.text?; rw [← hV]; rfl
    clear hV
    go_wp2
    go_ret2
    exact ⟨by rw [HF.out]; rfl, (HC.out _ HB1.out).2⟩
  obtain ⟨BY, hBY⟩ : ∃ BY, BY = Cd.bytes ts xs ln en := ⟨_, rfl⟩
  have HF : Hid (Cd.text? ts xs bg ln en = .tuple #[.string ⟨BY.toArray⟩, .bool true]) := by show _ = _; unfold Cd.text?; rw [← hV, hBY]; rfl
  obtain ⟨g1, g2, g3, rfl, g5, g6, -, -, -⟩ := Cd.ok_facts hV.symm
  have HG : Hid (∀ i, i < n → (ts.getD i ByteArray.empty).size ≤ 30) := by rw [HM.out.2]; exact g1
  have HI : Hid (∀ k, k < m → (0 ≤ (xs.getD k Ins.no).op ∧ (xs.getD k Ins.no).op ≤ 255) ∧ 0 ≤ (xs.getD k Ins.no).arg ∧ (xs.getD k Ins.no).arg ≤ 255) := by rw [HM.out.1]; exact fun k hk => Cd.ok_ins hV.symm k hk
  rw [← HM.out.2] at g2
  rw [← HM.out.1] at g3 g5 g6
  obtain ⟨l, rfl⟩ : ∃ l : Nat, ln = (l : Int) := ⟨ln.toNat, by omega⟩
  obtain ⟨u, rfl⟩ : ∃ u : Nat, en = (u : Int) := ⟨en.toNat, by omega⟩
  have HBY : Hid (BY = Pl.vb 8 n ++ ts.flatMap Cd.short ++ Pl.vb 8 m ++ xs.flatMap Cd.two ++ Pl.vb 8 l ++ Pl.vb 8 u) := by show _ = _; rw [hBY, HM.out.1, HM.out.2]; rfl
  have CV : Hid (∀ (W : World) (k : Nat), k ≤ 250 → Calls Tryz.prog 69 #[.int .i64 (k : Int)] W fun e w' => e = .returned (.string ⟨(Pl.vb 8 k).toArray⟩) ∧ Below W.heap.size W w') := fun W k hk => l01Var_any k W (by omega)
  have HLB : Hid (∀ k, (Pl.vb 8 n ++ (ts.take k).flatMap Cd.short).length ≤ 3000) := by
    intro k
    have h1 := l01_bytes n
    have h2 := Cd.flat_le Cd.short 39 (ts.take k) (fun x hx => by
      obtain ⟨i, hi, e⟩ := List.mem_iff_getElem.1 (List.mem_of_mem_take hx)
      have h3 := g1 i hi
      rw [List.getD_eq_getElem?_getD, List.getElem?_eq_getElem hi] at h3
      have h4 := l01_bytes x.size
      have h5 : x.data.toList.length = x.size := by simp
      unfold Cd.short
      rw [List.length_append, h5, ← e]
      rw [← e] at h4
      simp only [Option.getD_some] at h3
      omega)
    have h6 : (ts.take k).length ≤ 60 := by have := HM.out.2; rw [List.length_take]; omega
    rw [List.length_append]
    omega
  have HSB : Hid (∀ k, k < n → (Cd.short (ts.getD k ByteArray.empty)).length ≤ 39) := by
    intro k hk
    have h3 := HG.out k hk
    have h4 := l01_bytes (ts.getD k ByteArray.empty).size
    have h5 : (ts.getD k ByteArray.empty).data.toList.length = (ts.getD k ByteArray.empty).size := by simp
    unfold Cd.short
    rw [List.length_append, h5]
    omega
  have HTB : Hid (∀ k, ((xs.take k).flatMap Cd.two).length ≤ 500) := by
    intro k
    have h2 := Cd.flat_le Cd.two 2 (xs.take k) (fun x _ => by simp [Cd.two])
    have h6 : (xs.take k).length ≤ 250 := by have := HM.out.1; rw [List.length_take]; omega
    omega
  have hvm := l01_bytes m
  have hvl := l01_bytes l
  have hvu := l01_bytes u
  clear g1 hV hBY hx hk
  have R := (HC.out _ HB1.out).1
  have q0 := blk_cell R 0
  simp only [List.getElem?_toArray, List.getElem?_cons_zero] at q0
  clear R
  go_wp2_with fail
  refine (CV.out _ n (by omega)).mono ?_
  rintro e w2 ⟨rfl, hb2⟩
  have HB2 : Hid (Below W0.heap.size W0 w2) := HB1.out.trans (hb2.mono HB1.out.size)
  clear hb2 HB1 q0
  go_wp2
  go_loopw [4, 5] (fun s i wr => ∃ k : Nat, i = .int .i64 (k : Int) ∧ k ≤ n ∧ Hid (s = .string ⟨(Pl.vb 8 n ++ (ts.take k).flatMap Cd.short).toArray⟩) ∧ Hid (Below W0.heap.size W0 wr)) (fun _ i _ => n - (intOf i).toNat)
  case atStart => exact ⟨0, rfl, by omega, by show _ = _; simp, HB2.out⟩
  case round =>
    clear HB2
    obtain ⟨k, rfl, hk, HSV, HB⟩ := hrel
    obtain ⟨R, hbw⟩ := HC.out _ HB.out
    have q0 := blk_cell R 0
    have q1 := blk_cell R 1
    have q3 := blk_cell R 3
    have q4 := blk_cell R 4
    simp only [List.getElem?_toArray, List.getElem?_cons_zero, List.getElem?_cons_succ] at q0 q1 q3 q4
    clear R
    by_cases hlt : k < n
    · have d0 : decide ((k : Int) < (n : Int)) = true := decide_eq_true (by omega)
      have hk1 : (k : Int) < (n : Int) := by omega
      obtain ⟨b, o, rfl, c0⟩ := (HT.out _ hbw).1.cell HM.out.2 hlt
      have h30 := HG.out k hlt
      have HNX : Hid (Pl.vb 8 n ++ (ts.take (k + 1)).flatMap Cd.short = (Pl.vb 8 n ++ (ts.take k).flatMap Cd.short) ++ Cd.short (ts.getD k ByteArray.empty)) := by
        show _ = _
        rw [Cd.take_flat Cd.short ts ByteArray.empty k (by rw [← HM.out.2]; exact hlt), List.append_assoc]
      have CS : Hid (∀ W, Calls Tryz.prog 68 #[.string (ts.getD k ByteArray.empty)] W fun e w' => e = .returned (.string ⟨(Cd.short (ts.getD k ByteArray.empty)).toArray⟩) ∧ Below W.heap.size W w') := fun W => spShort7 _ W (by omega)
      have hSl := HLB.out k
      have hTl := HSB.out k hlt
      generalize Pl.vb 8 n ++ (ts.take k).flatMap Cd.short = S at *
      obtain rfl := HSV.out
      generalize Cd.short (ts.getD k ByteArray.empty) = T at *
      generalize ts.getD k ByteArray.empty = t at *
      have HCAT : Hid ((⟨S.toArray⟩ ++ ⟨T.toArray⟩ : ByteArray) = ⟨(S ++ T).toArray⟩) := cat_list _ _
      clear HSV hbw
      go_wp2_with fail
      refine (CS.out _).mono ?_
      rintro e w3 ⟨rfl, hb3⟩
      have HB3 : Hid (Below W0.heap.size W0 w3) := HB.out.trans (hb3.mono HB.out.size)
      clear hb3 CS HB
      go_wp2
      go_roundw
      case rel => exact ⟨k + 1, by go_num, by omega, by show _ = _; rw [HNX.out, ← HCAT.out], HB3.out⟩
      case measure => simp [intOf]; omega
    · have HKK : Hid (k = n) := (by omega : k = n)
      have d0 : decide ((k : Int) < (n : Int)) = false := decide_eq_false (by omega)
      obtain ⟨S, hS⟩ : ∃ S, S = Pl.vb 8 n ++ ts.flatMap Cd.short := ⟨_, rfl⟩
      have HS2 : Hid (Pl.vb 8 n ++ (ts.take k).flatMap Cd.short = S) := by show _ = _; rw [hS, HKK.out, HM.out.2, List.take_length]
      have hSl := HLB.out k
      rw [HS2.out] at HSV hSl
      obtain rfl := HSV.out
      have HBY2 : Hid (BY = S ++ Pl.vb 8 m ++ xs.flatMap Cd.two ++ Pl.vb 8 l ++ Pl.vb 8 u) := by show _ = _; rw [hS]; exact HBY.out
      clear hS HSV HS2 HBY hbw
      have HCAT : Hid ((⟨S.toArray⟩ ++ ⟨(Pl.vb 8 m).toArray⟩ : ByteArray) = ⟨(S ++ Pl.vb 8 m).toArray⟩) := cat_list _ _
      go_wp2_with fail
      refine (CV.out _ m g3).mono ?_
      rintro e w3 ⟨rfl, hb3⟩
      have HB3 : Hid (Below W0.heap.size W0 w3) := HB.out.trans (hb3.mono HB.out.size)
      obtain ⟨P, hP⟩ : ∃ P, P = S ++ Pl.vb 8 m := ⟨_, rfl⟩
      have hPl : P.length ≤ 3100 := by rw [hP, List.length_append]; omega
      rw [← hP] at HCAT HBY2
      clear hb3 HB hP q0 q1 q3 q4
      go_wp2
      go_loopw [4, 6] (fun s i wr => ∃ k : Nat, i = .int .i64 (k : Int) ∧ k ≤ m ∧ Hid (s = .string ⟨(P ++ (xs.take k).flatMap Cd.two).toArray⟩) ∧ Hid (Below W0.heap.size W0 wr)) (fun _ i _ => m - (intOf i).toNat)
      case atStart => exact ⟨0, rfl, by omega, by show _ = _; rw [HCAT.out]; simp, HB3.out⟩
      case round =>
        clear HB3 HCAT
        obtain ⟨k2, rfl, hk2, HSV, HB⟩ := hrel
        obtain ⟨R, hbw⟩ := HC.out _ HB.out
        have q1 := blk_cell R 1
        have q3 := blk_cell R 3
        have q4 := blk_cell R 4
        simp only [List.getElem?_toArray, List.getElem?_cons_zero, List.getElem?_cons_succ] at q1 q3 q4
        clear R
        by_cases hlt2 : k2 < m
        · have e0 : decide ((k2 : Int) < (m : Int)) = true := decide_eq_true (by omega)
          have hk3 : (k2 : Int) < (m : Int) := by omega
          obtain ⟨lb, lo, rfl, hlb, x0, x1⟩ := (HT.out _ hbw).2.cell HM.out.1 hlt2
          obtain ⟨⟨i1, i2⟩, i3, i4⟩ := HI.out k2 hlt2
          have HNX : Hid (P ++ (xs.take (k2 + 1)).flatMap Cd.two = (P ++ (xs.take k2).flatMap Cd.two) ++ Cd.two (xs.getD k2 Ins.no)) := by
            show _ = _
            rw [Cd.take_flat Cd.two xs Ins.no k2 (by rw [← HM.out.1]; exact hlt2), List.append_assoc]
          have hS2l : (P ++ (xs.take k2).flatMap Cd.two).length ≤ 3600 := by have := HTB.out k2; rw [List.length_append]; omega
          unfold Cd.two at HNX hS2l
          have b1 := Cd.byte_of i1 i2
          have b2 := Cd.byte_of i3 i4
          rw [b1] at x0
          rw [b2] at x1
          generalize UInt8.ofNat (xs.getD k2 Ins.no).op.toNat = c at *
          generalize UInt8.ofNat (xs.getD k2 Ins.no).arg.toNat = d at *
          have HNX2 : Hid (P ++ (xs.take (k2 + 1)).flatMap (fun x => [UInt8.ofNat x.op.toNat, UInt8.ofNat x.arg.toNat]) = (P ++ (xs.take k2).flatMap (fun x => [UInt8.ofNat x.op.toNat, UInt8.ofNat x.arg.toNat])) ++ [c, d]) := HNX
          have HSV2 : Hid (_ = Value.string ⟨(P ++ (xs.take k2).flatMap (fun x => [UInt8.ofNat x.op.toNat, UInt8.ofNat x.arg.toNat])).toArray⟩) := HSV
          clear HNX HSV b1 b2 i1 i2 i3 i4
          generalize P ++ (xs.take k2).flatMap (fun x => [UInt8.ofNat x.op.toNat, UInt8.ofNat x.arg.toNat]) = S2 at *
          obtain rfl := HSV2.out
          have HNX3 : Hid (P ++ (xs.take (k2 + 1)).flatMap Cd.two = S2 ++ [c, d]) := HNX2.out
          have HCAT : Hid ((⟨S2.toArray⟩ ++ ⟨#[c, d]⟩ : ByteArray) = ⟨(S2 ++ [c, d]).toArray⟩) := cat_list _ _
          have hcv := conv_two c d wr.heap.size ((wr.alloc (.cells #[.int .u8 (c.toNat : Int), .int .u8 (d.toNat : Int)] 5)).drew) (heap_alloc_new wr _)
          have v1 : IntKind.u8.wrap (c.toNat : Int) = (c.toNat : Int) := by have := c.toNat_lt; unfold IntKind.wrap; simp [IntKind.bits, IntKind.signed]; omega
          have v2 : IntKind.u8.wrap (d.toNat : Int) = (d.toNat : Int) := by have := d.toNat_lt; unfold IntKind.wrap; simp [IntKind.bits, IntKind.signed]; omega
          have HB3 : Hid (Below W0.heap.size W0 ((wr.alloc (.cells #[.int .u8 (c.toNat : Int), .int .u8 (d.toNat : Int)] 5)).drew)) := (HB.out.alloc HB.out.size _).drew
          clear HSV2 hbw
          go_wp2_with fail
          go_region
          all_goals
            go_wp2
            go_roundw
            case rel => exact ⟨k2 + 1, by go_num, by omega, by show _ = _; rw [HNX3.out, ← HCAT.out], HB3.out⟩
            case measure => simp [intOf]; omega
        · have HKK2 : Hid (k2 = m) := (by omega : k2 = m)
          have e0 : decide ((k2 : Int) < (m : Int)) = false := decide_eq_false (by omega)
          obtain ⟨S2, hS2⟩ : ∃ S2, S2 = P ++ xs.flatMap Cd.two := ⟨_, rfl⟩
          have HS3 : Hid (P ++ (xs.take k2).flatMap Cd.two = S2) := by show _ = _; rw [hS2, HKK2.out, HM.out.1, List.take_length]
          have hS2l : (P ++ (xs.take k2).flatMap Cd.two).length ≤ 3600 := by have := HTB.out k2; rw [List.length_append]; omega
          rw [HS3.out] at HSV hS2l
          obtain rfl := HSV.out
          have HBY3 : Hid ((⟨S2.toArray⟩ ++ ⟨(Pl.vb 8 l).toArray⟩ ++ ⟨(Pl.vb 8 u).toArray⟩ : ByteArray) = ⟨BY.toArray⟩) := by
            show _ = _
            rw [cat_list, cat_list, HBY2.out, hS2]
          clear hS2 HSV HS3 HBY2
          have CL : Hid (∀ W, Calls Tryz.prog 69 #[.int .i64 (l : Int)] W fun e w' => e = .returned (.string ⟨(Pl.vb 8 l).toArray⟩) ∧ Below W.heap.size W w') := fun W => CV.out W l (by omega)
          have CU : Hid (∀ W, Calls Tryz.prog 69 #[.int .i64 (u : Int)] W fun e w' => e = .returned (.string ⟨(Pl.vb 8 u).toArray⟩) ∧ Below W.heap.size W w') := fun W => CV.out W u (by omega)
          generalize Pl.vb 8 l = VL at *
          generalize Pl.vb 8 u = VU at *
          clear CV
          have HBD : Hid (Below W0.heap.size W0 wr.drew) := HB.out.drew
          have z1 : ¬ 9223372036854775807 < S2.length + VL.length := by omega
          have z2 : ¬ 9223372036854775807 < S2.length + VL.length + VU.length := by omega
          have HE : Hid (∀ W, Hid (Below W0.heap.size W0 W) → Below w.heap.size w W) := fun W hb => (HC.out _ hb.out).2
          clear HC HT HB hbw
          go_wp2_with fail
          go_region_held3 (fun W => W.cell? ⟨w.heap.size, 3, none⟩ = some (.int .i64 (l : Int)) ∧ W.cell? ⟨w.heap.size, 4, none⟩ = some (.int .i64 (u : Int)) ∧ Hid (Below W0.heap.size W0 W)) (first | exact keep2 hb3 (keep2 hb2 (by assumption)) | exact keep2 hb3 (by assumption) | exact keep2 hb2 (by assumption) | exact ⟨q3, q4, HBD.out⟩ | assumption) (first | (go_at_call_of 69 (Value.int IntKind.i64 (l : Int)); refine (CL.out _).mono ?_; rintro e a2 ⟨rfl, hb2⟩) | (go_at_call_of 69 (Value.int IntKind.i64 (u : Int)); refine (CU.out _).mono ?_; rintro e a3 ⟨rfl, hb3⟩))
          all_goals
            have hbf : Hid (Below W0.heap.size W0 a3) := HBD.out.trans ((hb2.trans (hb3.mono hb2.size)).mono HBD.out.size)
            go_wp2
            go_ret2
            exact ⟨by rw [HF.out, ← HBY3.out]; rfl, HE.out _ hbf⟩
end PartCtB
section PartPlainC
namespace Pl

theorem take_all (s : ByteArray) (k : Nat) (h : s.size ≤ k) : s.data.toList.take k = s.data.toList := List.take_of_length_le (by simpa using h)
end Pl
end PartPlainC
section PartPlainD
namespace Pl

theorem drop_at (s : ByteArray) (k : Nat) (h : k < s.size) : s.data.toList.drop k = s[k] :: s.data.toList.drop (k + 1) := by
  rw [List.drop_eq_getElem_cons (by simpa using h)]; rfl
end Pl
end PartPlainD
end Go.Proofs.YtehagonaacbmiaaGreat
