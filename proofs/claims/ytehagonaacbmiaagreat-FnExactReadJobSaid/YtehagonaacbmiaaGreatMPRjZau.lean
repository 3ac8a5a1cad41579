/- HasPrefix and Contains laid at this program; the sets; the program's behindGaps. 1 to 8 letters: isOfLetters. The program's reader of a pattern: a set, and a thing. The program's reader of a pattern: a thing. -/
import Derived.Test.YtehagonaacbmiaaGreatMPRjZat
import Derived.Laws.Strings3
import Derived.Lib.Strings
namespace Go.Proofs.YtehagonaacbmiaaGreat
section PartItD
open Go.RowKit

/-! The sets of the program -/
def setLetters : ByteArray := ⟨#[97, 98, 99, 100, 101, 102, 103, 104, 105, 106, 107, 108, 109, 110, 111, 112, 113, 114, 115, 116, 117, 118, 119, 120, 121, 122, 65, 66, 67, 68, 69, 70, 71, 72, 73, 74, 75, 76, 77, 78, 79, 80, 81, 82, 83, 84, 85, 86, 87, 88, 89, 90]⟩
theorem byte_all {p : UInt8 → Bool} (h : ∀ n : Fin 256, p (UInt8.ofNat n.val) = true) (b : UInt8) : p b = true := by
  have := h ⟨b.toNat, b.toNat_lt⟩
  simpa using this
set_option maxRecDepth 100000 in
theorem letters_is (b : UInt8) : setLetters.data.toList.contains b = Tk.letter b := by
  have := byte_all (p := fun b => setLetters.data.toList.contains b == Tk.letter b) (by decide) b
  simpa using this
theorem asc_letters : Asc setLetters := by unfold Asc; decide

end PartItD
section PartPkN
open Go.RowKit

theorem take_all (p : UInt8 → Bool) : ∀ l : List UInt8, (l.takeWhile p).length = l.length ↔ l.all p = true
  | [] => by simp
  | b :: r => by
    cases h : p b
    · simp [h]
    · simp [h, take_all p r]
theorem row_same (p : UInt8 → Bool) (s : ByteArray) : ((tx (s.data.toList.take (Tk.run p s.data.toList 0))).toList == s.toList) = s.data.toList.all p := by
  rw [Lib.toList_data, Lib.toList_data]
  have e : Tk.run p s.data.toList 0 = (s.data.toList.takeWhile p).length := by simp [Tk.run]
  have e2 : (tx (s.data.toList.take (Tk.run p s.data.toList 0))).data.toList = s.data.toList.take (Tk.run p s.data.toList 0) := by simp
  rw [e2, e]
  generalize s.data.toList = l
  rw [Bool.eq_iff_iff, beq_iff_eq, ← take_all]
  constructor
  · intro h
    have h2 := congrArg List.length h
    rw [List.length_take] at h2
    have := (List.takeWhile_prefix p (l := l)).length_le
    omega
  · intro h
    rw [h, List.take_length]

set_option maxRecDepth 100000 in
set_option maxHeartbeats 1600000 in
/-- 1 to 8 letters. -/
theorem isOf_any (s : ByteArray) (w : World) : Calls Tryz.prog 25 #[.string s] w fun e w' => e = .returned (.bool (s.data.toList.all Tk.letter && decide (1 ≤ s.data.toList.length ∧ s.data.toList.length ≤ 8))) ∧ Below w.heap.size w w' := by
  obtain ⟨A, hA⟩ : ∃ A, A = s.data.toList.all Tk.letter := ⟨_, rfl⟩
  have hsl : s.data.toList.length = s.size := by simp
  obtain ⟨V, hV⟩ : ∃ V, V = (A && decide (1 ≤ s.size ∧ s.size ≤ 8)) := ⟨_, rfl⟩
  have HV : Hid (V = (A && decide (1 ≤ s.size ∧ s.size ≤ 8))) := hV
  obtain ⟨R, hR⟩ : ∃ R, R = tx (s.data.toList.take (Tk.run Tk.letter s.data.toList 0)) := ⟨_, rfl⟩
  have HRO : Hid (∀ w, Calls Tryz.prog 60 #[.string s, .string setLetters] w fun e w' => e = .returned (.string R) ∧ Below w.heap.size w w') := fun w => by rw [hR]; exact rowOf_any s setLetters Tk.letter w asc_letters letters_is
  have qR : (R.toList == s.toList) = A := by rw [hR, hA]; exact row_same _ _
  have hem : s.toList.isEmpty = decide (s.size = 0) := by
    rw [Lib.toList_data, ← hsl]
    cases s.data.toList <;> simp
  rw [hsl, ← hA, ← hV]
  clear hV hA hR hsl
  unfold setLetters at HRO
  by_cases h0 : s.size = 0
  · have HRR : Hid (V = false) := HV.out.trans (by rw [decide_eq_false (by omega)]; exact Bool.and_false _)
    rw [decide_eq_true h0] at hem
    clear HV HRO qR h0
    go_enter Tryz.func25, Tryz.ntmps25
    go_wp2
    go_ret
    exact ⟨by rw [HRR.out]; rfl, Below.refl _ _⟩
  rw [decide_eq_false h0] at hem
  by_cases h8 : ¬ s.size ≤ 8
  · have HRR : Hid (V = false) := HV.out.trans (by rw [decide_eq_false (by omega)]; exact Bool.and_false _)
    have d8 : decide ((s.size : Int) ≤ 8) = false := decide_eq_false (by omega)
    clear HV HRO qR h0 h8
    go_enter Tryz.func25, Tryz.ntmps25
    go_wp2
    go_ret
    exact ⟨by rw [HRR.out]; rfl, Below.refl _ _⟩
  have d8 : decide ((s.size : Int) ≤ 8) = true := decide_eq_true (by omega)
  have HV2 : Hid (V = A) := HV.out.trans (by rw [decide_eq_true (by omega)]; exact Bool.and_true _)
  clear HV h0 h8
  go_enter Tryz.func25, Tryz.ntmps25
  go_wp2_with fail
  refine (HRO.out _).mono ?_
  rintro e w1 ⟨rfl, hb1⟩
  clear HRO
  go_wp2
  go_ret
  exact ⟨by rw [HV2.out]; rfl, hb1⟩

end PartPkN
section PartRiC
open Go.RowKit

theorem close_index (d : List UInt8) (b : Nat) : (Lib.indexByte d 93 = -1 → Pp.close d b = b + d.length) ∧ ∀ i : Nat, Lib.indexByte d 93 = (i : Int) → Pp.close d b = b + i := by
  induction d generalizing b with
  | nil => exact ⟨fun _ => rfl, fun i h => by simp [Lib.indexByte] at h⟩
  | cons c r ih =>
    rw [Pp.close]
    unfold Lib.indexByte
    by_cases hc : c = 93
    · subst hc
      simp only [↓reduceIte, beq_self_eq_true]
      exact ⟨fun h => by omega, fun i h => by omega⟩
    · have hc2 : (c == 93) = false := by simpa using hc
      simp only [hc, hc2, Bool.false_eq_true, ↓reduceIte]
      have hge := Lib.indexByte_ge r 93
      obtain ⟨i1, i2⟩ := ih (b + 1)
      by_cases hm : Lib.indexByte r 93 = -1
      · have hm2 : (Lib.indexByte r 93 == -1) = true := by rw [hm]; rfl
        simp only [hm2, ↓reduceIte]
        refine ⟨fun _ => ?_, fun i h => by omega⟩
        rw [i1 hm]
        simp
        omega
      · have hm2 : (Lib.indexByte r 93 == -1) = false := by simpa using hm
        simp only [hm2, Bool.false_eq_true, ↓reduceIte]
        refine ⟨fun h => by omega, fun i h => ?_⟩
        obtain ⟨j, rfl⟩ : ∃ j, i = j + 1 := ⟨i - 1, by omega⟩
        rw [i2 j (by omega)]
        omega

theorem RiPost.next {B g N N' : Nat} {l : List UInt8} {w w1 w' : World} {R R' : Option (Nat × List Pp.Pc × Nat)} {e : Ending} (h : RiPost B g l w1 N R e w') (hf : FB g B w w1) (hN : N ≤ N') (hR : R' = R) : RiPost B g l w N' R' e w' := by
  subst hR
  refine ⟨hf.trans h.1, ?_⟩
  have h2 := h.2
  cases R' with
  | none => obtain ⟨k, a, v, n, cs, h1, h2, h3, h4⟩ := h2; exact ⟨k, a, v, n, cs, h1, h2, h3, by omega⟩
  | some r => exact h2
set_option maxRecDepth 100000 in
theorem put_ok {ps : List Pp.Pc} {p : Pp.Pc} (h : ps.length ≤ 59) : Pp.put ps p = some (ps ++ [p], ps.length) := by
  unfold Pp.put
  rw [if_neg (by omega)]

/-- What a part of the program's reader promises. -/
def RiC (B g : Nat) (l : List UInt8) (fid : Nat) (F : Nat → Nat → List Pp.Pc → Option (Nat × List Pp.Pc × Nat)) (c f : Nat) : Prop :=
  ∀ (a : Nat) (v : Value) (ps : List Pp.Pc) (w : World), Ri w g l a v → RP B w v ps → B ≤ w.heap.size → a ≤ l.length → ps.length + 2 * (l.length - a) ≤ 50 → 4 * (l.length - a) + c ≤ f →
    Calls Tryz.prog fid #[.pointer (some ⟨g, 0, none⟩)] w (RiPost B g l w (100 + f) (F f a ps))

theorem FB.put {g B : Nat} {w : World} (o : Nat) (u : Value) : FB g B w (w.setCell ⟨g, o, none⟩ u) := (FB.refl g B w).setg o u

/-- A set whose signs begin at b. -/
def setR (l : List UInt8) (ps : List Pp.Pc) (b op : Nat) : Option (Nat × List Pp.Pc × Nat) :=
  if Pp.close (l.drop b) b = l.length ∨ Pp.close (l.drop b) b = b then none else (Pp.put ps ⟨op, (l.drop b).take (Pp.close (l.drop b) b - b), []⟩).map fun (o, k) => (Pp.close (l.drop b) b + 1, o, k)
theorem set_neg (l : List UInt8) (ps : List Pp.Pc) (a : Nat) (h : l[a]? = some 94) : Pp.set l a ps = setR l ps (a + 1) 4 := by
  have e2 : (l[a]? == some 94) = true := by rw [h]; rfl
  unfold Pp.set
  simp only [e2, ↓reduceIte]
  rfl
theorem set_pos (l : List UInt8) (ps : List Pp.Pc) (a : Nat) (h : ¬ l[a]? = some 94) : Pp.set l a ps = setR l ps a 3 := by
  have e2 : (l[a]? == some 94) = false := by simpa using h
  unfold Pp.set
  simp only [e2, Bool.false_eq_true, ↓reduceIte]
  rfl

set_option maxHeartbeats 1000000 in
set_option maxRecDepth 100000 in
/-- The rest of a set, its signs from place b on, its kind op. -/
theorem riSet_any (B g a : Nat) (l : List UInt8) (v : Value) (ps : List Pp.Pc) (w : World) (h : Ri w g l a v) (hr : RP B w v ps) (hg : g < B) (hB : B ≤ w.heap.size) (ha : a ≤ l.length) (hl : l.length ≤ 24) (hn : ps.length ≤ 55) :
    Calls Tryz.prog 137 #[.pointer (some ⟨g, 0, none⟩)] w (RiPost B g l w 60 (Pp.set l a ps)) := by
  have key : ∀ (b op : Nat) (w1 : World), FB g B w w1 → Ri w1 g l b v → RP B w1 v ps → b ≤ l.length → B ≤ w1.heap.size →
      ∃ (x : ByteArray), w1.cell? ⟨g, 0, none⟩ = some (.string x) ∧ w1.frozen? ⟨g, 0, none⟩ = false ∧ x.size ≤ 24 ∧
        ((Lib.indexByte x.data.toList 93 = -1 ∧ RiPost B g l w 60 (setR l ps b op) (.returned (.tuple #[.int .i64 0, .bool false])) w1) ∨
         (∃ i : Nat, Lib.indexByte x.data.toList 93 = (i : Int) ∧ (i = 0 → RiPost B g l w 60 (setR l ps b op) (.returned (.tuple #[.int .i64 0, .bool false])) w1) ∧
           (0 < i → i < x.size ∧ x.extract 0 i = tx ((l.drop b).take i) ∧ Ri (w1.setCell ⟨g, 0, none⟩ (.string (x.extract (i + 1) x.size))) g l (b + i + 1) v ∧
             (setR l ps b op) = some (b + i + 1, ps ++ [⟨op, (l.drop b).take i, []⟩], ps.length)))) := by
    intro b op w1 hf hri hrp hbl hB1
    obtain ⟨c0, c1, f0, f1⟩ := cells2 hri
    obtain ⟨cs, hp⟩ := hrp.pr
    have hdl : (l.drop b).length = l.length - b := by simp
    refine ⟨tx (l.drop b), c0, f0, by rw [tx_size]; omega, ?_⟩
    rw [tx_list]
    obtain ⟨k1, k2⟩ := close_index (l.drop b) b
    have hge := Lib.indexByte_ge (l.drop b) 93
    by_cases hm : Lib.indexByte (l.drop b) 93 = -1
    · left
      refine ⟨hm, ?_⟩
      unfold setR
      rw [k1 hm, if_pos (by left; omega)]
      exact ⟨hf, 0, b, v, _, cs, rfl, hri, hp, by omega⟩
    · right
      obtain ⟨i, hi⟩ : ∃ i : Nat, Lib.indexByte (l.drop b) 93 = (i : Int) := ⟨(Lib.indexByte (l.drop b) 93).toNat, by omega⟩
      have hlt : i < l.length - b := by
        have := (Lib.indexByte_some hi).1
        have := (List.getElem?_eq_some_iff.1 this).1
        omega
      refine ⟨i, hi, fun h0 => ?_, fun h0 => ⟨by rw [tx_size]; omega, ?_, ?_, ?_⟩⟩
      · unfold setR
        rw [k2 i hi, if_pos (by right; omega)]
        exact ⟨hf, 0, b, v, _, cs, rfl, hri, hp, by omega⟩
      · rw [ext_take, tx_list]; simp
      · have e : (tx (l.drop b)).extract (i + 1) (tx (l.drop b)).size = tx (l.drop (b + i + 1)) := by
          rw [ext_take, tx_list, tx_size, List.take_of_length_le (by simp; omega), List.drop_drop, Nat.add_assoc]
        rw [e]
        exact setA hri _
      · unfold setR
        rw [k2 i hi, if_neg (by omega), put_ok (by omega)]
        simp only [Option.map_some, Nat.add_sub_cancel_left]
  have fin : ∀ (b op i : Nat) (w1 : World) (x : ByteArray), FB g B w w1 → Ri w1 g l (b + i + 1) v → RP B w1 v ps → B ≤ w1.heap.size → x = tx ((l.drop b).take i) →
      Calls Tryz.prog 128 #[.pointer (some ⟨g, 0, none⟩), .int .i64 (op : Int), .string x, .slice none 0 0] w1 fun e w' => ∃ k : Nat, e = .returned (.int .i64 (k : Int)) ∧ RiPost B g l w 60 (some (b + i + 1, ps ++ [⟨op, (l.drop b).take i, []⟩], ps.length)) (.returned (.tuple #[.int .i64 (k : Int), .bool true])) w' := by
    intro b op i w1 x hf hri hrp hB1 hx
    refine (riAdd0 B g (b + i + 1) op l x _ v ps w1 hri hrp hg hB1 (by omega) hx (by simp; omega)).mono ?_
    rintro e w' ⟨rfl, hfb, v', h1, h2⟩
    exact ⟨ps.length, rfl, hf.trans hfb, rfl, v', h1, h2⟩
  have HFIN : Hid _ := fin
  have HKEY : Hid _ := key
  clear fin key
  by_cases hneg : l[a]? = some 94
  · rw [set_neg l ps a hneg]
    have hlt := Pp.lt_of_get hneg
    have CN : Hid (Calls Tryz.prog 126 #[.pointer (some ⟨g, 0, none⟩), .string ⟨#[94]⟩] w fun e w' => e = .returned (.bool true) ∧ w' = w) := nextYes g a l [94] 94 v w h hneg (by simp)
    have CT : Hid (Calls Tryz.prog 127 #[.pointer (some ⟨g, 0, none⟩)] w fun e w' => e = .returned (.string ⟨#[94]⟩) ∧ Ri w' g l (a + 1) v ∧ (∃ u, w' = w.setCell ⟨g, 0, none⟩ u)) := take_any g a l 94 v w h hneg
    have HR : Hid (RP B w v ps) := hr
    clear h hr hneg
    go_enter Tryz.func137, Tryz.ntmps137
    go_wp2_with fail
    refine CN.out.mono ?_
    rintro e w0 ⟨rfl, hw0⟩
    rw [hw0]
    clear hw0
    go_wp2_with fail
    refine CT.out.mono ?_
    rintro e w1 ⟨rfl, hri, u, rfl⟩
    obtain ⟨x, x0, y0, hx24, hcase⟩ := HKEY.out (a + 1) 4 _ (FB.put 0 u) hri (HR.out.setg hg 0 u) (by omega) (by simpa [World.setCell] using hB)
    have HF : Hid (FB g B w (w.setCell ⟨g, 0, none⟩ u)) := FB.put 0 u
    have HR1 : Hid (RP B (w.setCell ⟨g, 0, none⟩ u) v ps) := HR.out.setg hg 0 u
    have hB1 : B ≤ (w.setCell ⟨g, 0, none⟩ u).heap.size := by simpa [World.setCell] using hB
    obtain ⟨w1, hw1⟩ : ∃ w1, w1 = w.setCell ⟨g, 0, none⟩ u := ⟨_, rfl⟩
    rw [← hw1] at x0 y0 hcase HF HR1 hB1 ⊢
    have HCS : Hid _ := hcase
    clear hri CN CT HKEY hw1 HR hcase
    go_wp2_with fail
    refine (cut93_any x _ (by omega)).mono ?_
    rintro e w2 ⟨⟨kd, rfl⟩, hc⟩
    rcases hc with ⟨hm, rfl⟩ | ⟨i, hi, hix, rfl⟩
    · have HP : Hid (RiPost B g l w 60 (setR l ps (a + 1) 4) (.returned (.tuple #[.int .i64 0, .bool false])) w1) := by
        rcases HCS.out with ⟨_, hp⟩ | ⟨i, hi, _⟩
        · exact hp
        · rw [hm] at hi; omega
      clear HCS hm
      go_wp2
      (try simp only [Exit.inBlock, Exit.then])
      refine bodyPost_ret (results_tmp2 rfl _ _ _) rfl ?_
      exact HP.out
    · by_cases hi0 : i = 0
      · have HP : Hid (RiPost B g l w 60 (setR l ps (a + 1) 4) (.returned (.tuple #[.int .i64 0, .bool false])) w1) := by
          rcases HCS.out with ⟨hm, _⟩ | ⟨j, hj, h0, _⟩
          · rw [hm] at hi; omega
          · exact h0 (by rw [hi] at hj; omega)
        have hex : (x.extract 0 i).toList.isEmpty = true := by
          rw [Lib.toList_data, ext_take, hi0]
          simp
        clear HCS hi hi0
        go_wp2
        (try simp only [Exit.inBlock, Exit.then])
        refine bodyPost_ret (results_tmp2 rfl _ _ _) rfl ?_
        exact HP.out
      · obtain ⟨he, hri, hT⟩ : x.extract 0 i = tx ((l.drop (a + 1)).take i) ∧ Ri (w1.setCell ⟨g, 0, none⟩ (.string (x.extract (i + 1) x.size))) g l ((a + 1) + i + 1) v ∧ setR l ps (a + 1) 4 = some ((a + 1) + i + 1, ps ++ [⟨4, (l.drop (a + 1)).take i, []⟩], ps.length) := by
          rcases HCS.out with ⟨hm, _⟩ | ⟨j, hj, _, h1⟩
          · rw [hm] at hi; omega
          · obtain rfl : j = i := by rw [hi] at hj; omega
            obtain ⟨_, h2, h3, h4⟩ := h1 (by omega)
            exact ⟨h2, h3, h4⟩
        have hex : (x.extract 0 i).toList.isEmpty = false := by
          rw [Lib.toList_data, ext_take]
          have hln : x.data.toList.length = x.size := by simp
          cases hq : x.data.toList with
          | nil => rw [hq] at hln; simp at hln; omega
          | cons c r =>
            obtain ⟨j, rfl⟩ : ∃ j, i = j + 1 := ⟨i - 1, by omega⟩
            simp
        have HT : Hid (setR l ps (a + 1) 4 = some ((a + 1) + i + 1, ps ++ [⟨4, (l.drop (a + 1)).take i, []⟩], ps.length)) := hT
        have HRI : Hid (Ri (w1.setCell ⟨g, 0, none⟩ (.string (x.extract (i + 1) x.size))) g l ((a + 1) + i + 1) v) := hri
        have HE : Hid (x.extract 0 i = tx ((l.drop (a + 1)).take i)) := he
        clear HCS hi hT hri he hi0
        go_wp2_with fail
        refine (HFIN.out (a + 1) 4 i _ _ (FB.setg (FB.draw HF.out kd) 0 _) HRI.out (RP.setg (RP.draw HR1.out kd) hg 0 _) (by simpa [World.setCell] using hB1) HE.out).mono ?_
        rintro e w6 ⟨k, rfl, hpo⟩
        have HPO : Hid (RiPost B g l w 60 (setR l ps (a + 1) 4) (.returned (.tuple #[.int .i64 (k : Int), .bool true])) w6) := by
          show RiPost B g l w 60 (setR l ps (a + 1) 4) (.returned (.tuple #[.int .i64 (k : Int), .bool true])) w6
          rw [HT.out]
          exact hpo
        clear hpo
        go_wp2
        (try simp only [Exit.inBlock, Exit.then])
        refine bodyPost_ret (results_tmp2 rfl _ _ _) rfl ?_
        exact HPO.out
  · rw [set_pos l ps a hneg]
    have CN : Hid (Calls Tryz.prog 126 #[.pointer (some ⟨g, 0, none⟩), .string ⟨#[94]⟩] w fun e w' => e = .returned (.bool false) ∧ w' = w) := nextNo g a l [94] v w h (fun b hb e => hneg (by rw [hb, List.mem_singleton.1 e]))
    obtain ⟨x, x0, y0, hx24, hcase⟩ := HKEY.out a 3 w (FB.refl g B w) h hr ha hB
    have HF : Hid (FB g B w w) := FB.refl g B w
    have HR1 : Hid (RP B w v ps) := hr
    have hB1 := hB
    have HCS : Hid _ := hcase
    clear h hr hneg HKEY hcase
    go_enter Tryz.func137, Tryz.ntmps137
    go_wp2_with fail
    refine CN.out.mono ?_
    rintro e w0 ⟨rfl, hw0⟩
    rw [hw0]
    clear hw0
    go_wp2_with fail
    refine (cut93_any x _ (by omega)).mono ?_
    rintro e w2 ⟨⟨kd, rfl⟩, hc⟩
    rcases hc with ⟨hm, rfl⟩ | ⟨i, hi, hix, rfl⟩
    · have HP : Hid (RiPost B g l w 60 (setR l ps a 3) (.returned (.tuple #[.int .i64 0, .bool false])) w) := by
        rcases HCS.out with ⟨_, hp⟩ | ⟨i, hi, _⟩
        · exact hp
        · rw [hm] at hi; omega
      clear HCS hm
      go_wp2
      (try simp only [Exit.inBlock, Exit.then])
      refine bodyPost_ret (results_tmp2 rfl _ _ _) rfl ?_
      exact HP.out
    · by_cases hi0 : i = 0
      · have HP : Hid (RiPost B g l w 60 (setR l ps a 3) (.returned (.tuple #[.int .i64 0, .bool false])) w) := by
          rcases HCS.out with ⟨hm, _⟩ | ⟨j, hj, h0, _⟩
          · rw [hm] at hi; omega
          · exact h0 (by rw [hi] at hj; omega)
        have hex : (x.extract 0 i).toList.isEmpty = true := by
          rw [Lib.toList_data, ext_take, hi0]
          simp
        clear HCS hi hi0
        go_wp2
        (try simp only [Exit.inBlock, Exit.then])
        refine bodyPost_ret (results_tmp2 rfl _ _ _) rfl ?_
        exact HP.out
      · obtain ⟨he, hri, hT⟩ : x.extract 0 i = tx ((l.drop a).take i) ∧ Ri (w.setCell ⟨g, 0, none⟩ (.string (x.extract (i + 1) x.size))) g l (a + i + 1) v ∧ setR l ps a 3 = some (a + i + 1, ps ++ [⟨3, (l.drop a).take i, []⟩], ps.length) := by
          rcases HCS.out with ⟨hm, _⟩ | ⟨j, hj, _, h1⟩
          · rw [hm] at hi; omega
          · obtain rfl : j = i := by rw [hi] at hj; omega
            obtain ⟨_, h2, h3, h4⟩ := h1 (by omega)
            exact ⟨h2, h3, h4⟩
        have hex : (x.extract 0 i).toList.isEmpty = false := by
          rw [Lib.toList_data, ext_take]
          have hln : x.data.toList.length = x.size := by simp
          cases hq : x.data.toList with
          | nil => rw [hq] at hln; simp at hln; omega
          | cons c r =>
            obtain ⟨j, rfl⟩ : ∃ j, i = j + 1 := ⟨i - 1, by omega⟩
            simp
        have HT : Hid (setR l ps a 3 = some (a + i + 1, ps ++ [⟨3, (l.drop a).take i, []⟩], ps.length)) := hT
        have HRI : Hid (Ri (w.setCell ⟨g, 0, none⟩ (.string (x.extract (i + 1) x.size))) g l (a + i + 1) v) := hri
        have HE : Hid (x.extract 0 i = tx ((l.drop a).take i)) := he
        clear HCS hi hT hri he hi0
        go_wp2_with fail
        refine (HFIN.out a 3 i _ _ (FB.setg (FB.draw HF.out kd) 0 _) HRI.out (RP.setg (RP.draw HR1.out kd) hg 0 _) (by simpa [World.setCell] using hB1) HE.out).mono ?_
        rintro e w6 ⟨k, rfl, hpo⟩
        have HPO : Hid (RiPost B g l w 60 (setR l ps a 3) (.returned (.tuple #[.int .i64 (k : Int), .bool true])) w6) := by
          show RiPost B g l w 60 (setR l ps a 3) (.returned (.tuple #[.int .i64 (k : Int), .bool true])) w6
          rw [HT.out]
          exact hpo
        clear hpo
        go_wp2
        (try simp only [Exit.inBlock, Exit.then])
        refine bodyPost_ret (results_tmp2 rfl _ _ _) rfl ?_
        exact HPO.out
end PartRiC
section PartRiD
open Go.RowKit

set_option maxHeartbeats 1000000 in
set_option maxRecDepth 100000 in
/-- What stands in brackets, behind the opening one. -/
theorem riBracket (B g : Nat) (l : List UInt8) (f : Nat) (hg : g < B) (hA : RiC B g l 119 (Pp.alt l) 4 f) (a : Nat) (v : Value) (ps : List Pp.Pc) (w : World) (h : Ri w g l a v) (hr : RP B w v ps) (hB : B ≤ w.heap.size) (ha : a ≤ l.length) (hn : ps.length + 2 * (l.length - a) ≤ 50) (hd : 4 * (l.length - a) + 4 ≤ f) :
    Calls Tryz.prog 138 #[.pointer (some ⟨g, 0, none⟩)] w (RiPost B g l w (100 + f) (match Pp.alt l f a ps with
      | none => none
      | some (e, o, k) => if l[e]? = some 41 then some (e + 1, o, k) else none)) := by
  have HA : Hid (Calls Tryz.prog 119 #[.pointer (some ⟨g, 0, none⟩)] w (RiPost B g l w (100 + f) (Pp.alt l f a ps))) := hA a v ps w h hr hB ha hn hd
  obtain ⟨R, hR⟩ : ∃ R, R = (match Pp.alt l f a ps with
      | none => none
      | some (e, o, k) => if l[e]? = some 41 then some (e + 1, o, k) else none) := ⟨_, rfl⟩
  rw [← hR]
  have HR : Hid (R = (match Pp.alt l f a ps with
      | none => none
      | some (e, o, k) => if l[e]? = some 41 then some (e + 1, o, k) else none)) := hR
  clear hA hR h hr
  go_enter Tryz.func138, Tryz.ntmps138
  go_wp2_with fail
  refine HA.out.mono ?_
  intro e w1 hpost
  clear HA
  obtain ⟨hfb, hpost⟩ := hpost
  have HF : Hid (FB g B w w1) := hfb
  have hB1 : B ≤ w1.heap.size := by have := hfb.1; omega
  clear hfb
  cases hA : Pp.alt l f a ps with
  | none =>
    rw [hA] at hpost
    obtain ⟨k, a', v', n', cs', rfl, h1, h2, h3⟩ := hpost
    have HRN : Hid (R = none) := by show _ = _; rw [HR.out, hA]
    clear HR hA
    go_wp2
    (try simp only [Exit.inBlock, Exit.then])
    refine bodyPost_ret (results_tmp2 rfl _ _ _) rfl ?_
    rw [HRN.out]
    exact ⟨HF.out, _, a', v', n', cs', rfl, h1, h2, h3⟩
  | some r =>
    obtain ⟨e5, o5, k5⟩ := r
    rw [hA] at hpost
    obtain ⟨rfl, v5, r5, p5⟩ := hpost
    have HR5 : Hid (Ri w1 g l e5 v5) := r5
    have HP5 : Hid (RP B w1 v5 o5) := p5
    have hlen : o5.length ≤ 60 := by have := (Pp.bd l f).alt a ps e5 o5 k5 ha hA; omega
    by_cases h41 : l[e5]? = some 41
    · have HRS : Hid (R = some (e5 + 1, o5, k5)) := by show _ = _; rw [HR.out, hA]; simp only [h41, ↓reduceIte]
      have CN : Hid (Calls Tryz.prog 126 #[.pointer (some ⟨g, 0, none⟩), .string ⟨#[41]⟩] w1 fun e w' => e = .returned (.bool true) ∧ w' = w1) := nextYes g e5 l [41] 41 v5 w1 r5 h41 (by simp)
      have CT : Hid (Calls Tryz.prog 127 #[.pointer (some ⟨g, 0, none⟩)] w1 fun e w' => e = .returned (.string ⟨#[41]⟩) ∧ Ri w' g l (e5 + 1) v5 ∧ (∃ u, w' = w1.setCell ⟨g, 0, none⟩ u)) := take_any g e5 l 41 v5 w1 r5 h41
      clear HR hA h41 r5 p5
      go_wp2_with fail
      refine CN.out.mono ?_
      rintro e w0 ⟨rfl, hw0⟩
      rw [hw0]
      clear hw0
      go_wp2_with fail
      refine CT.out.mono ?_
      rintro e w2 ⟨rfl, r6, u, rfl⟩
      go_wp2
      (try simp only [Exit.inBlock, Exit.then])
      refine bodyPost_ret (results_tmp2 rfl _ _ _) rfl ?_
      rw [HRS.out]
      exact ⟨HF.out.setg 0 u, rfl, v5, r6, HP5.out.setg hg 0 u⟩
    · have HRN : Hid (R = none) := by show _ = _; rw [HR.out, hA]; simp only [h41, ↓reduceIte]
      have CN : Hid (Calls Tryz.prog 126 #[.pointer (some ⟨g, 0, none⟩), .string ⟨#[41]⟩] w1 fun e w' => e = .returned (.bool false) ∧ w' = w1) := nextNo g e5 l [41] v5 w1 r5 (fun b hb e => h41 (by rw [hb, List.mem_singleton.1 e]))
      obtain ⟨cs5, q5⟩ := p5.pr
      clear HR hA h41 p5
      go_wp2_with fail
      refine CN.out.mono ?_
      rintro e w0 ⟨rfl, hw0⟩
      rw [hw0]
      clear hw0
      go_wp2
      (try simp only [Exit.inBlock, Exit.then])
      refine bodyPost_ret (results_tmp2 rfl _ _ _) rfl ?_
      rw [HRN.out]
      exact ⟨HF.out, _, e5, v5, _, cs5, rfl, r5, q5, by omega⟩

theorem RiPost.ret {B g N : Nat} {l : List UInt8} {w w' : World} {R : Option (Nat × List Pp.Pc × Nat)} {e : Ending} (h : RiPost B g l w N R e w') : ∃ (k : Int) (b : Bool), e = .returned (.tuple #[.int .i64 k, .bool b]) := by
  obtain ⟨_, h⟩ := h
  cases R with
  | none => obtain ⟨k, _, _, _, _, e, _⟩ := h; exact ⟨k, _, e⟩
  | some r => exact ⟨_, _, h.1⟩
theorem special_mem (b : UInt8) : Pp.special b = true ↔ b ∈ ([42, 43, 63, 124, 40, 41, 91, 93, 46, 94, 36, 92] : List UInt8) := by
  unfold Pp.special
  rw [List.contains_iff_mem]

set_option maxHeartbeats 1000000 in
set_option maxRecDepth 100000 in
theorem riThing_b94 (B g : Nat) (l : List UInt8) (f : Nat) (hg : g < B) (_hl : l.length ≤ 24) (a : Nat) (v : Value) (ps : List Pp.Pc) (w : World) (h : Ri w g l a v) (hr : RP B w v ps) (hB : B ≤ w.heap.size) (hn : ps.length + 2 * (l.length - a) ≤ 50) (hb : l[a]? = some 94) :
    Calls Tryz.prog 135 #[.pointer (some ⟨g, 0, none⟩)] w (RiPost B g l w (100 + (f + 1)) (Pp.thing l (f + 1) a ps)) := by
  have hlt := Pp.lt_of_get hb
  have HE : Hid (Pp.thing l (f + 1) a ps = some (a + 1, ps ++ [⟨10, [], []⟩], ps.length)) := by
    show _ = _
    rw [Pp.thing, hb]
    show (Pp.put ps ⟨10, [], []⟩).map _ = _
    rw [put_ok (by omega)]
    rfl
  have CN : Hid (Calls Tryz.prog 126 #[.pointer (some ⟨g, 0, none⟩), .string ⟨#[42, 43, 63, 124, 40, 41, 91, 93, 46, 94, 36, 92]⟩] w fun e w' => e = .returned (.bool true) ∧ w' = w) := nextYes g a l [42, 43, 63, 124, 40, 41, 91, 93, 46, 94, 36, 92] 94 v w h hb (by decide)
  have CT : Hid (Calls Tryz.prog 127 #[.pointer (some ⟨g, 0, none⟩)] w fun e w' => e = .returned (.string ⟨#[94]⟩) ∧ Ri w' g l (a + 1) v ∧ (∃ u, w' = w.setCell ⟨g, 0, none⟩ u)) := take_any g a l 94 v w h hb
  have HR : Hid (RP B w v ps) := hr
  clear h hr
  clear hb
  go_enter Tryz.func135, Tryz.ntmps135
  go_wp2_with fail
  refine CN.out.mono ?_
  rintro e w0 ⟨rfl, hw0⟩
  rw [hw0]
  clear hw0
  go_wp2_with fail
  refine CT.out.mono ?_
  rintro e w1 ⟨rfl, r1, u, rfl⟩
  have HR1 : Hid (RP B (w.setCell ⟨g, 0, none⟩ u) v ps) := HR.out.setg hg 0 u
  have HF1 : Hid (FB g B w (w.setCell ⟨g, 0, none⟩ u)) := FB.put 0 u
  have hB1 : B ≤ (w.setCell ⟨g, 0, none⟩ u).heap.size := by simpa [World.setCell] using hB
  obtain ⟨w1, hw1⟩ : ∃ w1, w1 = w.setCell ⟨g, 0, none⟩ u := ⟨_, rfl⟩
  rw [← hw1] at r1 HR1 HF1 hB1 ⊢
  clear hw1 CN CT HR
  go_wp2_with fail
  refine (riAdd0 B g (a + 1) 10 l _ [] v ps _ r1 HR1.out hg hB1 (by omega) rfl (by simp)).mono ?_
  rintro e w2 ⟨rfl, hfb, v2, r2, p2⟩
  have HP2 : Hid (RP B w2 v2 (ps ++ [⟨10, [], []⟩])) := p2
  have HF2 : Hid (FB g B w w2) := HF1.out.trans hfb
  clear p2 hfb
  go_wp2
  (try simp only [Exit.inBlock, Exit.then])
  refine bodyPost_ret (results_tmp2 rfl _ _ _) rfl ?_
  rw [HE.out]
  exact ⟨HF2.out, rfl, v2, r2, HP2.out⟩

set_option maxHeartbeats 1000000 in
set_option maxRecDepth 100000 in
theorem riThing_b36 (B g : Nat) (l : List UInt8) (f : Nat) (hg : g < B) (_hl : l.length ≤ 24) (a : Nat) (v : Value) (ps : List Pp.Pc) (w : World) (h : Ri w g l a v) (hr : RP B w v ps) (hB : B ≤ w.heap.size) (hn : ps.length + 2 * (l.length - a) ≤ 50) (hb : l[a]? = some 36) :
    Calls Tryz.prog 135 #[.pointer (some ⟨g, 0, none⟩)] w (RiPost B g l w (100 + (f + 1)) (Pp.thing l (f + 1) a ps)) := by
  have hlt := Pp.lt_of_get hb
  have HE : Hid (Pp.thing l (f + 1) a ps = some (a + 1, ps ++ [⟨11, [], []⟩], ps.length)) := by
    show _ = _
    rw [Pp.thing, hb]
    show (Pp.put ps ⟨11, [], []⟩).map _ = _
    rw [put_ok (by omega)]
    rfl
  have CN : Hid (Calls Tryz.prog 126 #[.pointer (some ⟨g, 0, none⟩), .string ⟨#[42, 43, 63, 124, 40, 41, 91, 93, 46, 94, 36, 92]⟩] w fun e w' => e = .returned (.bool true) ∧ w' = w) := nextYes g a l [42, 43, 63, 124, 40, 41, 91, 93, 46, 94, 36, 92] 36 v w h hb (by decide)
  have CT : Hid (Calls Tryz.prog 127 #[.pointer (some ⟨g, 0, none⟩)] w fun e w' => e = .returned (.string ⟨#[36]⟩) ∧ Ri w' g l (a + 1) v ∧ (∃ u, w' = w.setCell ⟨g, 0, none⟩ u)) := take_any g a l 36 v w h hb
  have HR : Hid (RP B w v ps) := hr
  clear h hr
  clear hb
  go_enter Tryz.func135, Tryz.ntmps135
  go_wp2_with fail
  refine CN.out.mono ?_
  rintro e w0 ⟨rfl, hw0⟩
  rw [hw0]
  clear hw0
  go_wp2_with fail
  refine CT.out.mono ?_
  rintro e w1 ⟨rfl, r1, u, rfl⟩
  have HR1 : Hid (RP B (w.setCell ⟨g, 0, none⟩ u) v ps) := HR.out.setg hg 0 u
  have HF1 : Hid (FB g B w (w.setCell ⟨g, 0, none⟩ u)) := FB.put 0 u
  have hB1 : B ≤ (w.setCell ⟨g, 0, none⟩ u).heap.size := by simpa [World.setCell] using hB
  obtain ⟨w1, hw1⟩ : ∃ w1, w1 = w.setCell ⟨g, 0, none⟩ u := ⟨_, rfl⟩
  rw [← hw1] at r1 HR1 HF1 hB1 ⊢
  clear hw1 CN CT HR
  go_wp2_with fail
  refine (riAdd0 B g (a + 1) 11 l _ [] v ps _ r1 HR1.out hg hB1 (by omega) rfl (by simp)).mono ?_
  rintro e w2 ⟨rfl, hfb, v2, r2, p2⟩
  have HP2 : Hid (RP B w2 v2 (ps ++ [⟨11, [], []⟩])) := p2
  have HF2 : Hid (FB g B w w2) := HF1.out.trans hfb
  clear p2 hfb
  go_wp2
  (try simp only [Exit.inBlock, Exit.then])
  refine bodyPost_ret (results_tmp2 rfl _ _ _) rfl ?_
  rw [HE.out]
  exact ⟨HF2.out, rfl, v2, r2, HP2.out⟩

set_option maxHeartbeats 1000000 in
set_option maxRecDepth 100000 in
theorem riThing_b46 (B g : Nat) (l : List UInt8) (f : Nat) (hg : g < B) (_hl : l.length ≤ 24) (a : Nat) (v : Value) (ps : List Pp.Pc) (w : World) (h : Ri w g l a v) (hr : RP B w v ps) (hB : B ≤ w.heap.size) (hn : ps.length + 2 * (l.length - a) ≤ 50) (hb : l[a]? = some 46) :
    Calls Tryz.prog 135 #[.pointer (some ⟨g, 0, none⟩)] w (RiPost B g l w (100 + (f + 1)) (Pp.thing l (f + 1) a ps)) := by
  have hlt := Pp.lt_of_get hb
  have HE : Hid (Pp.thing l (f + 1) a ps = some (a + 1, ps ++ [⟨2, [], []⟩], ps.length)) := by
    show _ = _
    rw [Pp.thing, hb]
    show (Pp.put ps ⟨2, [], []⟩).map _ = _
    rw [put_ok (by omega)]
    rfl
  have CN : Hid (Calls Tryz.prog 126 #[.pointer (some ⟨g, 0, none⟩), .string ⟨#[42, 43, 63, 124, 40, 41, 91, 93, 46, 94, 36, 92]⟩] w fun e w' => e = .returned (.bool true) ∧ w' = w) := nextYes g a l [42, 43, 63, 124, 40, 41, 91, 93, 46, 94, 36, 92] 46 v w h hb (by decide)
  have CT : Hid (Calls Tryz.prog 127 #[.pointer (some ⟨g, 0, none⟩)] w fun e w' => e = .returned (.string ⟨#[46]⟩) ∧ Ri w' g l (a + 1) v ∧ (∃ u, w' = w.setCell ⟨g, 0, none⟩ u)) := take_any g a l 46 v w h hb
  have HR : Hid (RP B w v ps) := hr
  clear h hr
  clear hb
  go_enter Tryz.func135, Tryz.ntmps135
  go_wp2_with fail
  refine CN.out.mono ?_
  rintro e w0 ⟨rfl, hw0⟩
  rw [hw0]
  clear hw0
  go_wp2_with fail
  refine CT.out.mono ?_
  rintro e w1 ⟨rfl, r1, u, rfl⟩
  have HR1 : Hid (RP B (w.setCell ⟨g, 0, none⟩ u) v ps) := HR.out.setg hg 0 u
  have HF1 : Hid (FB g B w (w.setCell ⟨g, 0, none⟩ u)) := FB.put 0 u
  have hB1 : B ≤ (w.setCell ⟨g, 0, none⟩ u).heap.size := by simpa [World.setCell] using hB
  obtain ⟨w1, hw1⟩ : ∃ w1, w1 = w.setCell ⟨g, 0, none⟩ u := ⟨_, rfl⟩
  rw [← hw1] at r1 HR1 HF1 hB1 ⊢
  clear hw1 CN CT HR
  go_wp2_with fail
  refine (riAdd0 B g (a + 1) 2 l _ [] v ps _ r1 HR1.out hg hB1 (by omega) rfl (by simp)).mono ?_
  rintro e w2 ⟨rfl, hfb, v2, r2, p2⟩
  have HP2 : Hid (RP B w2 v2 (ps ++ [⟨2, [], []⟩])) := p2
  have HF2 : Hid (FB g B w w2) := HF1.out.trans hfb
  clear p2 hfb
  go_wp2
  (try simp only [Exit.inBlock, Exit.then])
  refine bodyPost_ret (results_tmp2 rfl _ _ _) rfl ?_
  rw [HE.out]
  exact ⟨HF2.out, rfl, v2, r2, HP2.out⟩

set_option maxHeartbeats 1000000 in
set_option maxRecDepth 100000 in
theorem riThing_other (B g : Nat) (l : List UInt8) (f : Nat) (hg : g < B) (_hl : l.length ≤ 24) (a : Nat) (v : Value) (ps : List Pp.Pc) (w : World) (h : Ri w g l a v) (hr : RP B w v ps) (hB : B ≤ w.heap.size) (hn : ps.length + 2 * (l.length - a) ≤ 50) (b : UInt8) (hb : l[a]? = some b) (hs : Pp.special b = false) :
    Calls Tryz.prog 135 #[.pointer (some ⟨g, 0, none⟩)] w (RiPost B g l w (100 + (f + 1)) (Pp.thing l (f + 1) a ps)) := by
  have hlt := Pp.lt_of_get hb
  have hne : ∀ c : UInt8, Pp.special c = true → ¬ b = c := fun c hc e => by rw [← e, hs] at hc; cases hc
  have HE : Hid (Pp.thing l (f + 1) a ps = some (a + 1, ps ++ [⟨1, [b], []⟩], ps.length)) := by
    show _ = _
    rw [Pp.thing, hb]
    simp only [hne 94 rfl, hne 36 rfl, hne 46 rfl, hne 91 rfl, hne 40 rfl, hne 92 rfl, hs, Bool.false_eq_true, ↓reduceIte]
    rw [put_ok (by omega)]
    rfl
  have CN : Hid (Calls Tryz.prog 126 #[.pointer (some ⟨g, 0, none⟩), .string ⟨#[42, 43, 63, 124, 40, 41, 91, 93, 46, 94, 36, 92]⟩] w fun e w' => e = .returned (.bool false) ∧ w' = w) := nextNo g a l [42, 43, 63, 124, 40, 41, 91, 93, 46, 94, 36, 92] v w h (fun c hc e => by have hbc := Option.some.inj (hb.symm.trans hc); rw [← hbc] at e; rw [(special_mem b).2 e] at hs; cases hs)
  have CT : Hid (Calls Tryz.prog 127 #[.pointer (some ⟨g, 0, none⟩)] w fun e w' => e = .returned (.string ⟨#[b]⟩) ∧ Ri w' g l (a + 1) v ∧ (∃ u, w' = w.setCell ⟨g, 0, none⟩ u)) := take_any g a l b v w h hb
  have HR : Hid (RP B w v ps) := hr
  clear h hr
  clear hne hs hb
  go_enter Tryz.func135, Tryz.ntmps135
  go_wp2_with fail
  refine CN.out.mono ?_
  rintro e w0 ⟨rfl, hw0⟩
  rw [hw0]
  clear hw0
  go_wp2_with fail
  refine CT.out.mono ?_
  rintro e w1 ⟨rfl, r1, u, rfl⟩
  have HR1 : Hid (RP B (w.setCell ⟨g, 0, none⟩ u) v ps) := HR.out.setg hg 0 u
  have HF1 : Hid (FB g B w (w.setCell ⟨g, 0, none⟩ u)) := FB.put 0 u
  have hB1 : B ≤ (w.setCell ⟨g, 0, none⟩ u).heap.size := by simpa [World.setCell] using hB
  obtain ⟨w1, hw1⟩ : ∃ w1, w1 = w.setCell ⟨g, 0, none⟩ u := ⟨_, rfl⟩
  rw [← hw1] at r1 HR1 HF1 hB1 ⊢
  clear hw1 CN CT HR
  go_wp2_with fail
  refine (riAdd0 B g (a + 1) 1 l _ [b] v ps _ r1 HR1.out hg hB1 (by omega) rfl (by simp)).mono ?_
  rintro e w2 ⟨rfl, hfb, v2, r2, p2⟩
  have HP2 : Hid (RP B w2 v2 (ps ++ [⟨1, [b], []⟩])) := p2
  have HF2 : Hid (FB g B w w2) := HF1.out.trans hfb
  clear p2 hfb
  go_wp2
  (try simp only [Exit.inBlock, Exit.then])
  refine bodyPost_ret (results_tmp2 rfl _ _ _) rfl ?_
  rw [HE.out]
  exact ⟨HF2.out, rfl, v2, r2, HP2.out⟩

set_option maxHeartbeats 1000000 in
set_option maxRecDepth 100000 in
theorem riThing_b91 (B g : Nat) (l : List UInt8) (f : Nat) (hg : g < B) (hl : l.length ≤ 24) (a : Nat) (v : Value) (ps : List Pp.Pc) (w : World) (h : Ri w g l a v) (hr : RP B w v ps) (hB : B ≤ w.heap.size) (hn : ps.length + 2 * (l.length - a) ≤ 50) (hb : l[a]? = some 91) :
    Calls Tryz.prog 135 #[.pointer (some ⟨g, 0, none⟩)] w (RiPost B g l w (100 + (f + 1)) (Pp.thing l (f + 1) a ps)) := by
  have hlt := Pp.lt_of_get hb
  have HE : Hid (Pp.thing l (f + 1) a ps = Pp.set l (a + 1) ps) := by
    show _ = _
    rw [Pp.thing, hb]
    rfl
  have CN : Hid (Calls Tryz.prog 126 #[.pointer (some ⟨g, 0, none⟩), .string ⟨#[42, 43, 63, 124, 40, 41, 91, 93, 46, 94, 36, 92]⟩] w fun e w' => e = .returned (.bool true) ∧ w' = w) := nextYes g a l [42, 43, 63, 124, 40, 41, 91, 93, 46, 94, 36, 92] 91 v w h hb (by decide)
  have CT : Hid (Calls Tryz.prog 127 #[.pointer (some ⟨g, 0, none⟩)] w fun e w' => e = .returned (.string ⟨#[91]⟩) ∧ Ri w' g l (a + 1) v ∧ (∃ u, w' = w.setCell ⟨g, 0, none⟩ u)) := take_any g a l 91 v w h hb
  have HR : Hid (RP B w v ps) := hr
  clear h hr
  clear hb
  go_enter Tryz.func135, Tryz.ntmps135
  go_wp2_with fail
  refine CN.out.mono ?_
  rintro e w0 ⟨rfl, hw0⟩
  rw [hw0]
  clear hw0
  go_wp2_with fail
  refine CT.out.mono ?_
  rintro e w1 ⟨rfl, r1, u, rfl⟩
  have HR1 : Hid (RP B (w.setCell ⟨g, 0, none⟩ u) v ps) := HR.out.setg hg 0 u
  have HF1 : Hid (FB g B w (w.setCell ⟨g, 0, none⟩ u)) := FB.put 0 u
  have hB1 : B ≤ (w.setCell ⟨g, 0, none⟩ u).heap.size := by simpa [World.setCell] using hB
  obtain ⟨w1, hw1⟩ : ∃ w1, w1 = w.setCell ⟨g, 0, none⟩ u := ⟨_, rfl⟩
  rw [← hw1] at r1 HR1 HF1 hB1 ⊢
  clear hw1 CN CT HR
  go_wp2_with fail
  refine (riSet_any B g (a + 1) l v ps _ r1 HR1.out hg hB1 (by omega) hl (by omega)).mono ?_
  intro e w2 hpost
  have HPO : Hid (RiPost B g l w (100 + (f + 1)) (Pp.thing l (f + 1) a ps) e w2) := hpost.next HF1.out (by omega) HE.out
  obtain ⟨k, bo, rfl⟩ := hpost.ret
  clear hpost
  go_wp2
  (try simp only [Exit.inBlock, Exit.then])
  refine bodyPost_ret (results_tmp2 rfl _ _ _) rfl ?_
  exact HPO.out

set_option maxHeartbeats 1000000 in
set_option maxRecDepth 100000 in
theorem riThing_b40 (B g : Nat) (l : List UInt8) (f : Nat) (hg : g < B) (_hl : l.length ≤ 24) (hA : RiC B g l 119 (Pp.alt l) 4 f) (a : Nat) (v : Value) (ps : List Pp.Pc) (w : World) (h : Ri w g l a v) (hr : RP B w v ps) (hB : B ≤ w.heap.size) (hn : ps.length + 2 * (l.length - a) ≤ 50) (hd : 4 * (l.length - a) + 1 ≤ f + 1) (hb : l[a]? = some 40) :
    Calls Tryz.prog 135 #[.pointer (some ⟨g, 0, none⟩)] w (RiPost B g l w (100 + (f + 1)) (Pp.thing l (f + 1) a ps)) := by
  have hlt := Pp.lt_of_get hb
  have HE : Hid (Pp.thing l (f + 1) a ps = match Pp.alt l f (a + 1) ps with
      | none => none
      | some (e, o, k) => if l[e]? = some 41 then some (e + 1, o, k) else none) := by
    show _ = _
    rw [Pp.thing, hb]
    rfl
  have HA : Hid (RiC B g l 119 (Pp.alt l) 4 f) := hA
  clear hA
  have CN : Hid (Calls Tryz.prog 126 #[.pointer (some ⟨g, 0, none⟩), .string ⟨#[42, 43, 63, 124, 40, 41, 91, 93, 46, 94, 36, 92]⟩] w fun e w' => e = .returned (.bool true) ∧ w' = w) := nextYes g a l [42, 43, 63, 124, 40, 41, 91, 93, 46, 94, 36, 92] 40 v w h hb (by decide)
  have CT : Hid (Calls Tryz.prog 127 #[.pointer (some ⟨g, 0, none⟩)] w fun e w' => e = .returned (.string ⟨#[40]⟩) ∧ Ri w' g l (a + 1) v ∧ (∃ u, w' = w.setCell ⟨g, 0, none⟩ u)) := take_any g a l 40 v w h hb
  have HR : Hid (RP B w v ps) := hr
  clear h hr
  clear hb
  go_enter Tryz.func135, Tryz.ntmps135
  go_wp2_with fail
  refine CN.out.mono ?_
  rintro e w0 ⟨rfl, hw0⟩
  rw [hw0]
  clear hw0
  go_wp2_with fail
  refine CT.out.mono ?_
  rintro e w1 ⟨rfl, r1, u, rfl⟩
  have HR1 : Hid (RP B (w.setCell ⟨g, 0, none⟩ u) v ps) := HR.out.setg hg 0 u
  have HF1 : Hid (FB g B w (w.setCell ⟨g, 0, none⟩ u)) := FB.put 0 u
  have hB1 : B ≤ (w.setCell ⟨g, 0, none⟩ u).heap.size := by simpa [World.setCell] using hB
  obtain ⟨w1, hw1⟩ : ∃ w1, w1 = w.setCell ⟨g, 0, none⟩ u := ⟨_, rfl⟩
  rw [← hw1] at r1 HR1 HF1 hB1 ⊢
  clear hw1 CN CT HR
  go_wp2_with fail
  refine (riBracket B g l f hg HA.out (a + 1) v ps _ r1 HR1.out hB1 (by omega) (by omega) (by omega)).mono ?_
  intro e w2 hpost
  have HPO : Hid (RiPost B g l w (100 + (f + 1)) (Pp.thing l (f + 1) a ps) e w2) := hpost.next HF1.out (by omega) HE.out
  obtain ⟨k, bo, rfl⟩ := hpost.ret
  clear hpost
  go_wp2
  (try simp only [Exit.inBlock, Exit.then])
  refine bodyPost_ret (results_tmp2 rfl _ _ _) rfl ?_
  exact HPO.out

set_option maxHeartbeats 1000000 in
set_option maxRecDepth 100000 in
theorem riThing_b42 (B g : Nat) (l : List UInt8) (f : Nat) (hg : g < B) (_hl : l.length ≤ 24) (a : Nat) (v : Value) (ps : List Pp.Pc) (w : World) (h : Ri w g l a v) (hr : RP B w v ps) (hB : B ≤ w.heap.size) (hn : ps.length + 2 * (l.length - a) ≤ 50) (hb : l[a]? = some 42) :
    Calls Tryz.prog 135 #[.pointer (some ⟨g, 0, none⟩)] w (RiPost B g l w (100 + (f + 1)) (Pp.thing l (f + 1) a ps)) := by
  have hlt := Pp.lt_of_get hb
  have HE : Hid (Pp.thing l (f + 1) a ps = none) := by
    show _ = _
    rw [Pp.thing, hb]
    rfl
  have CN : Hid (Calls Tryz.prog 126 #[.pointer (some ⟨g, 0, none⟩), .string ⟨#[42, 43, 63, 124, 40, 41, 91, 93, 46, 94, 36, 92]⟩] w fun e w' => e = .returned (.bool true) ∧ w' = w) := nextYes g a l [42, 43, 63, 124, 40, 41, 91, 93, 46, 94, 36, 92] 42 v w h hb (by decide)
  have CT : Hid (Calls Tryz.prog 127 #[.pointer (some ⟨g, 0, none⟩)] w fun e w' => e = .returned (.string ⟨#[42]⟩) ∧ Ri w' g l (a + 1) v ∧ (∃ u, w' = w.setCell ⟨g, 0, none⟩ u)) := take_any g a l 42 v w h hb
  have HR : Hid (RP B w v ps) := hr
  clear h hr
  clear hb
  go_enter Tryz.func135, Tryz.ntmps135
  go_wp2_with fail
  refine CN.out.mono ?_
  rintro e w0 ⟨rfl, hw0⟩
  rw [hw0]
  clear hw0
  go_wp2_with fail
  refine CT.out.mono ?_
  rintro e w1 ⟨rfl, r1, u, rfl⟩
  have HR1 : Hid (RP B (w.setCell ⟨g, 0, none⟩ u) v ps) := HR.out.setg hg 0 u
  have HF1 : Hid (FB g B w (w.setCell ⟨g, 0, none⟩ u)) := FB.put 0 u
  have hB1 : B ≤ (w.setCell ⟨g, 0, none⟩ u).heap.size := by simpa [World.setCell] using hB
  obtain ⟨w1, hw1⟩ : ∃ w1, w1 = w.setCell ⟨g, 0, none⟩ u := ⟨_, rfl⟩
  rw [← hw1] at r1 HR1 HF1 hB1 ⊢
  clear hw1 CN CT HR
  obtain ⟨cs, p1⟩ := HR1.out.pr
  go_wp2
  (try simp only [Exit.inBlock, Exit.then])
  refine bodyPost_ret (results_tmp2 rfl _ _ _) rfl ?_
  rw [HE.out]
  exact ⟨HF1.out, _, a + 1, v, _, cs, rfl, r1, p1, by omega⟩

set_option maxHeartbeats 1000000 in
set_option maxRecDepth 100000 in
theorem riThing_b43 (B g : Nat) (l : List UInt8) (f : Nat) (hg : g < B) (_hl : l.length ≤ 24) (a : Nat) (v : Value) (ps : List Pp.Pc) (w : World) (h : Ri w g l a v) (hr : RP B w v ps) (hB : B ≤ w.heap.size) (hn : ps.length + 2 * (l.length - a) ≤ 50) (hb : l[a]? = some 43) :
    Calls Tryz.prog 135 #[.pointer (some ⟨g, 0, none⟩)] w (RiPost B g l w (100 + (f + 1)) (Pp.thing l (f + 1) a ps)) := by
  have hlt := Pp.lt_of_get hb
  have HE : Hid (Pp.thing l (f + 1) a ps = none) := by
    show _ = _
    rw [Pp.thing, hb]
    rfl
  have CN : Hid (Calls Tryz.prog 126 #[.pointer (some ⟨g, 0, none⟩), .string ⟨#[42, 43, 63, 124, 40, 41, 91, 93, 46, 94, 36, 92]⟩] w fun e w' => e = .returned (.bool true) ∧ w' = w) := nextYes g a l [42, 43, 63, 124, 40, 41, 91, 93, 46, 94, 36, 92] 43 v w h hb (by decide)
  have CT : Hid (Calls Tryz.prog 127 #[.pointer (some ⟨g, 0, none⟩)] w fun e w' => e = .returned (.string ⟨#[43]⟩) ∧ Ri w' g l (a + 1) v ∧ (∃ u, w' = w.setCell ⟨g, 0, none⟩ u)) := take_any g a l 43 v w h hb
  have HR : Hid (RP B w v ps) := hr
  clear h hr
  clear hb
  go_enter Tryz.func135, Tryz.ntmps135
  go_wp2_with fail
  refine CN.out.mono ?_
  rintro e w0 ⟨rfl, hw0⟩
  rw [hw0]
  clear hw0
  go_wp2_with fail
  refine CT.out.mono ?_
  rintro e w1 ⟨rfl, r1, u, rfl⟩
  have HR1 : Hid (RP B (w.setCell ⟨g, 0, none⟩ u) v ps) := HR.out.setg hg 0 u
  have HF1 : Hid (FB g B w (w.setCell ⟨g, 0, none⟩ u)) := FB.put 0 u
  have hB1 : B ≤ (w.setCell ⟨g, 0, none⟩ u).heap.size := by simpa [World.setCell] using hB
  obtain ⟨w1, hw1⟩ : ∃ w1, w1 = w.setCell ⟨g, 0, none⟩ u := ⟨_, rfl⟩
  rw [← hw1] at r1 HR1 HF1 hB1 ⊢
  clear hw1 CN CT HR
  obtain ⟨cs, p1⟩ := HR1.out.pr
  go_wp2
  (try simp only [Exit.inBlock, Exit.then])
  refine bodyPost_ret (results_tmp2 rfl _ _ _) rfl ?_
  rw [HE.out]
  exact ⟨HF1.out, _, a + 1, v, _, cs, rfl, r1, p1, by omega⟩

set_option maxHeartbeats 1000000 in
set_option maxRecDepth 100000 in
theorem riThing_b63 (B g : Nat) (l : List UInt8) (f : Nat) (hg : g < B) (_hl : l.length ≤ 24) (a : Nat) (v : Value) (ps : List Pp.Pc) (w : World) (h : Ri w g l a v) (hr : RP B w v ps) (hB : B ≤ w.heap.size) (hn : ps.length + 2 * (l.length - a) ≤ 50) (hb : l[a]? = some 63) :
    Calls Tryz.prog 135 #[.pointer (some ⟨g, 0, none⟩)] w (RiPost B g l w (100 + (f + 1)) (Pp.thing l (f + 1) a ps)) := by
  have hlt := Pp.lt_of_get hb
  have HE : Hid (Pp.thing l (f + 1) a ps = none) := by
    show _ = _
    rw [Pp.thing, hb]
    rfl
  have CN : Hid (Calls Tryz.prog 126 #[.pointer (some ⟨g, 0, none⟩), .string ⟨#[42, 43, 63, 124, 40, 41, 91, 93, 46, 94, 36, 92]⟩] w fun e w' => e = .returned (.bool true) ∧ w' = w) := nextYes g a l [42, 43, 63, 124, 40, 41, 91, 93, 46, 94, 36, 92] 63 v w h hb (by decide)
  have CT : Hid (Calls Tryz.prog 127 #[.pointer (some ⟨g, 0, none⟩)] w fun e w' => e = .returned (.string ⟨#[63]⟩) ∧ Ri w' g l (a + 1) v ∧ (∃ u, w' = w.setCell ⟨g, 0, none⟩ u)) := take_any g a l 63 v w h hb
  have HR : Hid (RP B w v ps) := hr
  clear h hr
  clear hb
  go_enter Tryz.func135, Tryz.ntmps135
  go_wp2_with fail
  refine CN.out.mono ?_
  rintro e w0 ⟨rfl, hw0⟩
  rw [hw0]
  clear hw0
  go_wp2_with fail
  refine CT.out.mono ?_
  rintro e w1 ⟨rfl, r1, u, rfl⟩
  have HR1 : Hid (RP B (w.setCell ⟨g, 0, none⟩ u) v ps) := HR.out.setg hg 0 u
  have HF1 : Hid (FB g B w (w.setCell ⟨g, 0, none⟩ u)) := FB.put 0 u
  have hB1 : B ≤ (w.setCell ⟨g, 0, none⟩ u).heap.size := by simpa [World.setCell] using hB
  obtain ⟨w1, hw1⟩ : ∃ w1, w1 = w.setCell ⟨g, 0, none⟩ u := ⟨_, rfl⟩
  rw [← hw1] at r1 HR1 HF1 hB1 ⊢
  clear hw1 CN CT HR
  obtain ⟨cs, p1⟩ := HR1.out.pr
  go_wp2
  (try simp only [Exit.inBlock, Exit.then])
  refine bodyPost_ret (results_tmp2 rfl _ _ _) rfl ?_
  rw [HE.out]
  exact ⟨HF1.out, _, a + 1, v, _, cs, rfl, r1, p1, by omega⟩

set_option maxHeartbeats 1000000 in
set_option maxRecDepth 100000 in
theorem riThing_b124 (B g : Nat) (l : List UInt8) (f : Nat) (hg : g < B) (_hl : l.length ≤ 24) (a : Nat) (v : Value) (ps : List Pp.Pc) (w : World) (h : Ri w g l a v) (hr : RP B w v ps) (hB : B ≤ w.heap.size) (hn : ps.length + 2 * (l.length - a) ≤ 50) (hb : l[a]? = some 124) :
    Calls Tryz.prog 135 #[.pointer (some ⟨g, 0, none⟩)] w (RiPost B g l w (100 + (f + 1)) (Pp.thing l (f + 1) a ps)) := by
  have hlt := Pp.lt_of_get hb
  have HE : Hid (Pp.thing l (f + 1) a ps = none) := by
    show _ = _
    rw [Pp.thing, hb]
    rfl
  have CN : Hid (Calls Tryz.prog 126 #[.pointer (some ⟨g, 0, none⟩), .string ⟨#[42, 43, 63, 124, 40, 41, 91, 93, 46, 94, 36, 92]⟩] w fun e w' => e = .returned (.bool true) ∧ w' = w) := nextYes g a l [42, 43, 63, 124, 40, 41, 91, 93, 46, 94, 36, 92] 124 v w h hb (by decide)
  have CT : Hid (Calls Tryz.prog 127 #[.pointer (some ⟨g, 0, none⟩)] w fun e w' => e = .returned (.string ⟨#[124]⟩) ∧ Ri w' g l (a + 1) v ∧ (∃ u, w' = w.setCell ⟨g, 0, none⟩ u)) := take_any g a l 124 v w h hb
  have HR : Hid (RP B w v ps) := hr
  clear h hr
  clear hb
  go_enter Tryz.func135, Tryz.ntmps135
  go_wp2_with fail
  refine CN.out.mono ?_
  rintro e w0 ⟨rfl, hw0⟩
  rw [hw0]
  clear hw0
  go_wp2_with fail
  refine CT.out.mono ?_
  rintro e w1 ⟨rfl, r1, u, rfl⟩
  have HR1 : Hid (RP B (w.setCell ⟨g, 0, none⟩ u) v ps) := HR.out.setg hg 0 u
  have HF1 : Hid (FB g B w (w.setCell ⟨g, 0, none⟩ u)) := FB.put 0 u
  have hB1 : B ≤ (w.setCell ⟨g, 0, none⟩ u).heap.size := by simpa [World.setCell] using hB
  obtain ⟨w1, hw1⟩ : ∃ w1, w1 = w.setCell ⟨g, 0, none⟩ u := ⟨_, rfl⟩
  rw [← hw1] at r1 HR1 HF1 hB1 ⊢
  clear hw1 CN CT HR
  obtain ⟨cs, p1⟩ := HR1.out.pr
  go_wp2
  (try simp only [Exit.inBlock, Exit.then])
  refine bodyPost_ret (results_tmp2 rfl _ _ _) rfl ?_
  rw [HE.out]
  exact ⟨HF1.out, _, a + 1, v, _, cs, rfl, r1, p1, by omega⟩

set_option maxHeartbeats 1000000 in
set_option maxRecDepth 100000 in
theorem riThing_b41 (B g : Nat) (l : List UInt8) (f : Nat) (hg : g < B) (_hl : l.length ≤ 24) (a : Nat) (v : Value) (ps : List Pp.Pc) (w : World) (h : Ri w g l a v) (hr : RP B w v ps) (hB : B ≤ w.heap.size) (hn : ps.length + 2 * (l.length - a) ≤ 50) (hb : l[a]? = some 41) :
    Calls Tryz.prog 135 #[.pointer (some ⟨g, 0, none⟩)] w (RiPost B g l w (100 + (f + 1)) (Pp.thing l (f + 1) a ps)) := by
  have hlt := Pp.lt_of_get hb
  have HE : Hid (Pp.thing l (f + 1) a ps = none) := by
    show _ = _
    rw [Pp.thing, hb]
    rfl
  have CN : Hid (Calls Tryz.prog 126 #[.pointer (some ⟨g, 0, none⟩), .string ⟨#[42, 43, 63, 124, 40, 41, 91, 93, 46, 94, 36, 92]⟩] w fun e w' => e = .returned (.bool true) ∧ w' = w) := nextYes g a l [42, 43, 63, 124, 40, 41, 91, 93, 46, 94, 36, 92] 41 v w h hb (by decide)
  have CT : Hid (Calls Tryz.prog 127 #[.pointer (some ⟨g, 0, none⟩)] w fun e w' => e = .returned (.string ⟨#[41]⟩) ∧ Ri w' g l (a + 1) v ∧ (∃ u, w' = w.setCell ⟨g, 0, none⟩ u)) := take_any g a l 41 v w h hb
  have HR : Hid (RP B w v ps) := hr
  clear h hr
  clear hb
  go_enter Tryz.func135, Tryz.ntmps135
  go_wp2_with fail
  refine CN.out.mono ?_
  rintro e w0 ⟨rfl, hw0⟩
  rw [hw0]
  clear hw0
  go_wp2_with fail
  refine CT.out.mono ?_
  rintro e w1 ⟨rfl, r1, u, rfl⟩
  have HR1 : Hid (RP B (w.setCell ⟨g, 0, none⟩ u) v ps) := HR.out.setg hg 0 u
  have HF1 : Hid (FB g B w (w.setCell ⟨g, 0, none⟩ u)) := FB.put 0 u
  have hB1 : B ≤ (w.setCell ⟨g, 0, none⟩ u).heap.size := by simpa [World.setCell] using hB
  obtain ⟨w1, hw1⟩ : ∃ w1, w1 = w.setCell ⟨g, 0, none⟩ u := ⟨_, rfl⟩
  rw [← hw1] at r1 HR1 HF1 hB1 ⊢
  clear hw1 CN CT HR
  obtain ⟨cs, p1⟩ := HR1.out.pr
  go_wp2
  (try simp only [Exit.inBlock, Exit.then])
  refine bodyPost_ret (results_tmp2 rfl _ _ _) rfl ?_
  rw [HE.out]
  exact ⟨HF1.out, _, a + 1, v, _, cs, rfl, r1, p1, by omega⟩

set_option maxHeartbeats 1000000 in
set_option maxRecDepth 100000 in
theorem riThing_b93 (B g : Nat) (l : List UInt8) (f : Nat) (hg : g < B) (_hl : l.length ≤ 24) (a : Nat) (v : Value) (ps : List Pp.Pc) (w : World) (h : Ri w g l a v) (hr : RP B w v ps) (hB : B ≤ w.heap.size) (hn : ps.length + 2 * (l.length - a) ≤ 50) (hb : l[a]? = some 93) :
    Calls Tryz.prog 135 #[.pointer (some ⟨g, 0, none⟩)] w (RiPost B g l w (100 + (f + 1)) (Pp.thing l (f + 1) a ps)) := by
  have hlt := Pp.lt_of_get hb
  have HE : Hid (Pp.thing l (f + 1) a ps = none) := by
    show _ = _
    rw [Pp.thing, hb]
    rfl
  have CN : Hid (Calls Tryz.prog 126 #[.pointer (some ⟨g, 0, none⟩), .string ⟨#[42, 43, 63, 124, 40, 41, 91, 93, 46, 94, 36, 92]⟩] w fun e w' => e = .returned (.bool true) ∧ w' = w) := nextYes g a l [42, 43, 63, 124, 40, 41, 91, 93, 46, 94, 36, 92] 93 v w h hb (by decide)
  have CT : Hid (Calls Tryz.prog 127 #[.pointer (some ⟨g, 0, none⟩)] w fun e w' => e = .returned (.string ⟨#[93]⟩) ∧ Ri w' g l (a + 1) v ∧ (∃ u, w' = w.setCell ⟨g, 0, none⟩ u)) := take_any g a l 93 v w h hb
  have HR : Hid (RP B w v ps) := hr
  clear h hr
  clear hb
  go_enter Tryz.func135, Tryz.ntmps135
  go_wp2_with fail
  refine CN.out.mono ?_
  rintro e w0 ⟨rfl, hw0⟩
  rw [hw0]
  clear hw0
  go_wp2_with fail
  refine CT.out.mono ?_
  rintro e w1 ⟨rfl, r1, u, rfl⟩
  have HR1 : Hid (RP B (w.setCell ⟨g, 0, none⟩ u) v ps) := HR.out.setg hg 0 u
  have HF1 : Hid (FB g B w (w.setCell ⟨g, 0, none⟩ u)) := FB.put 0 u
  have hB1 : B ≤ (w.setCell ⟨g, 0, none⟩ u).heap.size := by simpa [World.setCell] using hB
  obtain ⟨w1, hw1⟩ : ∃ w1, w1 = w.setCell ⟨g, 0, none⟩ u := ⟨_, rfl⟩
  rw [← hw1] at r1 HR1 HF1 hB1 ⊢
  clear hw1 CN CT HR
  obtain ⟨cs, p1⟩ := HR1.out.pr
  go_wp2
  (try simp only [Exit.inBlock, Exit.then])
  refine bodyPost_ret (results_tmp2 rfl _ _ _) rfl ?_
  rw [HE.out]
  exact ⟨HF1.out, _, a + 1, v, _, cs, rfl, r1, p1, by omega⟩

set_option maxHeartbeats 1000000 in
set_option maxRecDepth 100000 in
theorem riThing_b92 (B g : Nat) (l : List UInt8) (f : Nat) (hg : g < B) (_hl : l.length ≤ 24) (a : Nat) (v : Value) (ps : List Pp.Pc) (w : World) (h : Ri w g l a v) (hr : RP B w v ps) (hB : B ≤ w.heap.size) (hn : ps.length + 2 * (l.length - a) ≤ 50) (hb : l[a]? = some 92) :
    Calls Tryz.prog 135 #[.pointer (some ⟨g, 0, none⟩)] w (RiPost B g l w (100 + (f + 1)) (Pp.thing l (f + 1) a ps)) := by
  have hlt := Pp.lt_of_get hb
  have HE : Hid (Pp.thing l (f + 1) a ps = match l[a + 1]? with
      | none => none
      | some c => if Pp.special c then (Pp.put ps ⟨1, [c], []⟩).map fun (o, k) => (a + 2, o, k) else none) := by
    show _ = _
    rw [Pp.thing, hb]
    rfl
  have CN : Hid (Calls Tryz.prog 126 #[.pointer (some ⟨g, 0, none⟩), .string ⟨#[42, 43, 63, 124, 40, 41, 91, 93, 46, 94, 36, 92]⟩] w fun e w' => e = .returned (.bool true) ∧ w' = w) := nextYes g a l [42, 43, 63, 124, 40, 41, 91, 93, 46, 94, 36, 92] 92 v w h hb (by decide)
  have CT : Hid (Calls Tryz.prog 127 #[.pointer (some ⟨g, 0, none⟩)] w fun e w' => e = .returned (.string ⟨#[92]⟩) ∧ Ri w' g l (a + 1) v ∧ (∃ u, w' = w.setCell ⟨g, 0, none⟩ u)) := take_any g a l 92 v w h hb
  have HR : Hid (RP B w v ps) := hr
  clear h hr
  clear hb
  go_enter Tryz.func135, Tryz.ntmps135
  go_wp2_with fail
  refine CN.out.mono ?_
  rintro e w0 ⟨rfl, hw0⟩
  rw [hw0]
  clear hw0
  go_wp2_with fail
  refine CT.out.mono ?_
  rintro e w1 ⟨rfl, r1, u, rfl⟩
  have HR1 : Hid (RP B (w.setCell ⟨g, 0, none⟩ u) v ps) := HR.out.setg hg 0 u
  have HF1 : Hid (FB g B w (w.setCell ⟨g, 0, none⟩ u)) := FB.put 0 u
  have hB1 : B ≤ (w.setCell ⟨g, 0, none⟩ u).heap.size := by simpa [World.setCell] using hB
  obtain ⟨w1, hw1⟩ : ∃ w1, w1 = w.setCell ⟨g, 0, none⟩ u := ⟨_, rfl⟩
  rw [← hw1] at r1 HR1 HF1 hB1 ⊢
  clear hw1 CN CT HR
  by_cases hq : ∃ c, l[a + 1]? = some c ∧ Pp.special c = true
  · obtain ⟨c, hc, hsp⟩ := hq
    have hlt1 := Pp.lt_of_get hc
    have HT : Hid (Pp.thing l (f + 1) a ps = some (a + 2, ps ++ [⟨1, [c], []⟩], ps.length)) := by
      show _ = _
      rw [HE.out, hc]
      simp only [hsp, ↓reduceIte]
      rw [put_ok (by omega)]
      rfl
    have CN : Hid (Calls Tryz.prog 126 #[.pointer (some ⟨g, 0, none⟩), .string ⟨#[42, 43, 63, 124, 40, 41, 91, 93, 46, 94, 36, 92]⟩] w1 fun e w' => e = .returned (.bool true) ∧ w' = w1) := nextYes g (a + 1) l [42, 43, 63, 124, 40, 41, 91, 93, 46, 94, 36, 92] c v w1 r1 hc ((special_mem c).1 hsp)
    have CT : Hid (Calls Tryz.prog 127 #[.pointer (some ⟨g, 0, none⟩)] w1 fun e w' => e = .returned (.string (tx [c])) ∧ Ri w' g l (a + 1 + 1) v ∧ (∃ u, w' = w1.setCell ⟨g, 0, none⟩ u)) := take_any g (a + 1) l c v w1 r1 hc
    clear HE hc hsp
    go_wp2_with fail
    refine CN.out.mono ?_
    rintro e w0 ⟨rfl, hw0⟩
    rw [hw0]
    clear hw0
    go_wp2_with fail
    refine CT.out.mono ?_
    rintro e w2 ⟨rfl, r2, u2, rfl⟩
    go_wp2_with fail
    refine (riAdd0 B g (a + 1 + 1) 1 l _ [c] v ps _ r2 (HR1.out.setg hg 0 u2) hg (by simpa [World.setCell] using hB1) (by omega) rfl (by simp)).mono ?_
    rintro e w3 ⟨rfl, hfb, v3, r3, p3⟩
    have HP3 : Hid (RP B w3 v3 (ps ++ [⟨1, [c], []⟩])) := p3
    have HF3 : Hid (FB g B w w3) := (HF1.out.setg 0 u2).trans hfb
    clear p3 hfb
    go_wp2
    (try simp only [Exit.inBlock, Exit.then])
    refine bodyPost_ret (results_tmp2 rfl _ _ _) rfl ?_
    rw [HT.out]
    exact ⟨HF3.out, rfl, v3, r3, HP3.out⟩
  · have HT : Hid (Pp.thing l (f + 1) a ps = none) := by
      show _ = _
      rw [HE.out]
      cases hc : l[a + 1]? with
      | none => rfl
      | some c =>
        have : Pp.special c = false := by
          cases hsp : Pp.special c with
          | false => rfl
          | true => exact absurd ⟨c, hc, hsp⟩ hq
        simp only [this, Bool.false_eq_true, ↓reduceIte]
    have CN : Hid (Calls Tryz.prog 126 #[.pointer (some ⟨g, 0, none⟩), .string ⟨#[42, 43, 63, 124, 40, 41, 91, 93, 46, 94, 36, 92]⟩] w1 fun e w' => e = .returned (.bool false) ∧ w' = w1) := nextNo g (a + 1) l [42, 43, 63, 124, 40, 41, 91, 93, 46, 94, 36, 92] v w1 r1 (fun c hc e => hq ⟨c, hc, (special_mem c).2 e⟩)
    obtain ⟨cs, p1⟩ := HR1.out.pr
    clear HE hq
    go_wp2_with fail
    refine CN.out.mono ?_
    rintro e w0 ⟨rfl, hw0⟩
    rw [hw0]
    clear hw0
    go_wp2
    (try simp only [Exit.inBlock, Exit.then])
    refine bodyPost_ret (results_tmp2 rfl _ _ _) rfl ?_
    rw [HT.out]
    exact ⟨HF1.out, _, a + 1, v, _, cs, rfl, r1, p1, by omega⟩

set_option maxRecDepth 100000 in
/-- A thing. -/
theorem riThing (B g : Nat) (l : List UInt8) (f : Nat) (hg : g < B) (hl : l.length ≤ 24) (hA : RiC B g l 119 (Pp.alt l) 4 f) (a : Nat) (v : Value) (ps : List Pp.Pc) (w : World) (h : Ri w g l a v) (hr : RP B w v ps) (hB : B ≤ w.heap.size) (hn : ps.length + 2 * (l.length - a) ≤ 50) (hd : 4 * (l.length - a) + 1 ≤ f + 1) (ha : a < l.length) :
    Calls Tryz.prog 135 #[.pointer (some ⟨g, 0, none⟩)] w (RiPost B g l w (100 + (f + 1)) (Pp.thing l (f + 1) a ps)) := by
  have hb : l[a]? = some l[a] := List.getElem?_eq_getElem ha
  obtain ⟨b, hbb⟩ : ∃ b, b = l[a] := ⟨_, rfl⟩
  rw [← hbb] at hb
  clear hbb
  cases hs : Pp.special b with
  | false => exact riThing_other B g l f hg hl a v ps w h hr hB hn b hb hs
  | true =>
    have hm := (special_mem b).1 hs
    simp only [List.mem_cons, List.not_mem_nil, or_false] at hm
    rcases hm with rfl | rfl | rfl | rfl | rfl | rfl | rfl | rfl | rfl | rfl | rfl | rfl
    · exact riThing_b42 B g l f hg hl a v ps w h hr hB hn hb
    · exact riThing_b43 B g l f hg hl a v ps w h hr hB hn hb
    · exact riThing_b63 B g l f hg hl a v ps w h hr hB hn hb
    · exact riThing_b124 B g l f hg hl a v ps w h hr hB hn hb
    · exact riThing_b40 B g l f hg hl hA a v ps w h hr hB hn hd hb
    · exact riThing_b41 B g l f hg hl a v ps w h hr hB hn hb
    · exact riThing_b91 B g l f hg hl a v ps w h hr hB hn hb
    · exact riThing_b93 B g l f hg hl a v ps w h hr hB hn hb
    · exact riThing_b46 B g l f hg hl a v ps w h hr hB hn hb
    · exact riThing_b94 B g l f hg hl a v ps w h hr hB hn hb
    · exact riThing_b36 B g l f hg hl a v ps w h hr hB hn hb
    · exact riThing_b92 B g l f hg hl a v ps w h hr hB hn hb
end PartRiD
end Go.Proofs.YtehagonaacbmiaaGreat
