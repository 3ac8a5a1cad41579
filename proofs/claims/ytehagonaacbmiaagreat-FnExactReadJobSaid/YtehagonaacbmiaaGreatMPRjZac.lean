/- Is it a sign that stands for something else, in a pattern? The specification's reader of a pattern: a set. The specification's reader of a pattern: the pieces that it has read, one more of them, and what each of its parts leaves. Plain facts, without the program: the bytes that a number is written as (least seven bits first), and that a text of such bytes is the shortest one just when its last byte is no needless nought. -/
import Derived.Test.YtehagonaacbmiaaGreatMPRjZab
namespace Go.Proofs.YtehagonaacbmiaaGreat
section PartRdC
open Go.RowKit

def signs : List UInt8 := [42, 43, 63, 124, 40, 41, 91, 93, 46, 94, 36, 92]
theorem special_yes (c : UInt8) (j : Nat) (h : j < 12) (e : (signs.getD j 0).toNat = c.toNat) : Pp.special c = true := by
  have e2 : signs.getD j 0 = c := UInt8.toNat_inj.1 e
  show signs.contains c = true
  rw [← e2, List.getD_eq_getElem?_getD, List.getElem?_eq_getElem (by exact h)]
  simp only [List.contains_iff_mem, Option.getD_some]
  exact List.getElem_mem _
theorem special_no (c : UInt8) (h : ∀ j, j < 12 → (signs.getD j 0).toNat ≠ c.toNat) : Pp.special c = false := by
  show signs.contains c = false
  rw [Bool.eq_false_iff]
  intro hc
  rw [List.contains_iff_mem] at hc
  obtain ⟨j, hj, e⟩ := List.mem_iff_getElem.1 hc
  refine h j hj ?_
  rw [List.getD_eq_getElem?_getD, List.getElem?_eq_getElem hj, ← e]
  rfl

set_option maxHeartbeats 1000000 in
set_option maxRecDepth 100000 in
theorem special_any (c : UInt8) (w : World) :
    Calls Tryz.prog 134 #[.int .u8 (c.toNat : Int)] w fun e w' => e = .returned (.bool (Pp.special c)) ∧ w' = w := by
  obtain ⟨x, hx⟩ : ∃ x : ByteArray, x = ⟨signs.toArray⟩ := ⟨_, rfl⟩
  have hxs : x.size = 12 := by rw [hx]; rfl
  have HX : Hid (∀ j (hj : j < x.size), x[j].toNat = (signs.getD j 0).toNat) := by
    intro j hj
    subst hx
    have h12 : j < signs.length := by exact hj
    rw [List.getD_eq_getElem?_getD, List.getElem?_eq_getElem h12]
    rfl
  have hc256 : c.toNat < 256 := c.toNat_lt
  go_enter Tryz.func134, Tryz.ntmps134
  go_wp2
  rw [show (⟨#[42, 43, 63, 124, 40, 41, 91, 93, 46, 94, 36, 92]⟩ : ByteArray) = x from hx.symm]
  clear hx
  go_loop [4] (fun i => ∃ k : Nat, i = .int .i64 (k : Int) ∧ k ≤ x.size ∧ Hid (∀ j, j < k → (signs.getD j 0).toNat ≠ c.toNat)) (fun i => x.size - (intOf i).toNat)
  case atStart => exact ⟨0, rfl, by omega, fun j hj => by omega⟩
  case round =>
    obtain ⟨k, rfl, hk, HP⟩ := hrel
    by_cases hlt : k < x.size
    · have h256 : x[k].toNat < 256 := x[k].toNat_lt
      have hxk := HX.out k hlt
      by_cases he : x[k].toNat = c.toNat
      · have HY : Hid (Pp.special c = true) := special_yes c k (by omega) (by omega)
        have d : ((x[k].toNat : Int) == (c.toNat : Int)) = true := by simp; omega
        clear hxk
        go_wp2
        go_ret
        exact ⟨by rw [HY.out]; rfl, rfl⟩
      · have d : ((x[k].toNat : Int) == (c.toNat : Int)) = false := by simp; omega
        have HN : Hid (∀ j, j < k + 1 → (signs.getD j 0).toNat ≠ c.toNat) := by
          intro j hj
          by_cases e : j = k
          · subst e; omega
          · exact HP.out j (by omega)
        clear hxk he
        go_wp2
        go_round
        case rel => exact ⟨k + 1, by go_num, by omega, HN.out⟩
        case measure => simp [intOf]; omega
    · have HY : Hid (Pp.special c = false) := special_no c (fun j hj => HP.out j (by omega))
      go_wp2
      go_ret
      exact ⟨by rw [HY.out]; rfl, rfl⟩
end PartRdC
section PartRdD
open Go.RowKit

/-- What may have changed: the reader itself, the row's own block, what is new. -/
def Fr (g : Nat) (v : Value) (w w' : World) : Prop := w.heap.size ≤ w'.heap.size ∧ (∀ k, k < w.heap.size → k ≠ g → v.ownBlock ≠ some k → w'.heap[k]? = w.heap[k]?) ∧ Env w w'
theorem Fr.refl (g : Nat) (v : Value) (w : World) : Fr g v w w := ⟨Nat.le_refl _, fun _ _ _ _ => rfl, rfl, rfl, rfl⟩
theorem Fr.draw {g : Nat} {v : Value} {w w' : World} (h : Fr g v w w') (k : Nat) : Fr g v w (w'.drewN k) := h
theorem Fr.store {g : Nat} {v : Value} {w w' : World} (h : Fr g v w w') (o : Nat) (u : Value) : Fr g v w (w'.setCell ⟨g, o, none⟩ u) := by
  refine ⟨by simpa [World.setCell] using h.1, fun k hk hkg hkv => ?_, h.2.2⟩
  rw [Below.heap_setCell _ _ _ _ (by show k ≠ g; exact hkg)]
  exact h.2.1 k hk hkg hkv
theorem Fr.next {g : Nat} {v : Value} {w w1 w2 : World} (h1 : Fr g v w w1) (h2 : Fr g v w1 w2) : Fr g v w w2 :=
  ⟨Nat.le_trans h1.1 h2.1, fun k hk hkg hkv => (h2.2.1 k (Nat.lt_of_lt_of_le hk h1.1) hkg hkv).trans (h1.2.1 k hk hkg hkv), h2.2.2.1.trans h1.2.2.1, h2.2.2.2.1.trans h1.2.2.2.1, h2.2.2.2.2.trans h1.2.2.2.2⟩
theorem Rd.at {w : World} {g : Nat} {s : ByteArray} {a : Nat} {bad : Bool} {v : Value} (h : Rd w g s a bad v) (z : Int) (b : Nat) (e : z = (b : Int)) : Rd (w.setCell ⟨g, 1, none⟩ (.int .i64 z)) g s b bad v := by
  subst e
  unfold Rd at h ⊢
  simp [World.setCell, Array.getElem?_modify, h]
theorem Rd.bad {w : World} {g : Nat} {s : ByteArray} {a : Nat} {bad : Bool} {v : Value} (h : Rd w g s a bad v) : Rd (w.setCell ⟨g, 2, none⟩ (.bool true)) g s a true v := set2' h (.bool true)
theorem Rd.draw {w : World} {g : Nat} {s : ByteArray} {a : Nat} {bad : Bool} {v : Value} (h : Rd w g s a bad v) (k : Nat) : Rd (w.drewN k) g s a bad v := h
/-- The reader's place, as the world holds it. -/
def placeOf (g : Nat) (w : World) : Nat := match w.cell? ⟨g, 1, none⟩ with
  | some (.int _ z) => z.toNat
  | _ => 0
theorem Rd.place {w : World} {g : Nat} {s : ByteArray} {a : Nat} {bad : Bool} {v : Value} (h : Rd w g s a bad v) : placeOf g w = a := by
  obtain ⟨_, c1, _⟩ := cells4 h
  unfold placeOf
  rw [c1]
  simp

theorem drop_at4 (s : ByteArray) (k : Nat) (h : k < s.size) : s.data.toList.drop k = s[k] :: s.data.toList.drop (k + 1) := by
  rw [List.drop_eq_getElem_cons (by simpa using h)]; rfl
theorem close_stop (s : ByteArray) (k : Nat) (h : k < s.size) (e : s[k].toNat = 93) : Pp.close (s.data.toList.drop k) k = k := by
  have : s[k] = 93 := UInt8.toNat_inj.1 (by rw [e]; rfl)
  rw [drop_at4 s k h, Pp.close, if_pos this]
theorem close_go (s : ByteArray) (k : Nat) (h : k < s.size) (e : s[k].toNat ≠ 93) : Pp.close (s.data.toList.drop k) k = Pp.close (s.data.toList.drop (k + 1)) (k + 1) := by
  have : ¬ s[k] = 93 := by intro e2; apply e; rw [e2]; rfl
  rw [drop_at4 s k h, Pp.close, if_neg this]
theorem close_end (s : ByteArray) (k : Nat) (h : k = s.size) : Pp.close (s.data.toList.drop k) k = k := by
  rw [List.drop_of_length_le (by simp; omega), Pp.close]

/-- What comes of a set whose signs begin at b. -/
def SetPost (B g b n op : Nat) (s : ByteArray) (v : Value) (cs : List Value) (w : World) (r : Ending) (w' : World) : Prop :=
  ((Pp.close (s.data.toList.drop b) b = s.size ∨ Pp.close (s.data.toList.drop b) b = b) ∧ r = .returned (.int .i64 0) ∧ (∃ a', a' ≤ s.size ∧ Rd w' g s a' true v) ∧ PR B w' v n cs ∧ Fr g v w w') ∨
  (b < Pp.close (s.data.toList.drop b) b ∧ Pp.close (s.data.toList.drop b) b < s.size ∧ r = .returned (.int .i64 (n : Int)) ∧ ∃ v', Rd w' g s (Pp.close (s.data.toList.drop b) b + 1) (decide (60 < n + 1)) v' ∧
    PR B w' v' (n + 1) (cs ++ [.int .i64 (op : Int), .string (s.extract b (Pp.close (s.data.toList.drop b) b)), .slice none 0 0]) ∧ Fr g v w w' ∧ ∀ q, v'.ownBlock = some q → v.ownBlock = some q ∨ w.heap.size ≤ q)

set_option maxHeartbeats 4000000 in
set_option maxRecDepth 100000 in
/-- A set, from its opening sign on. -/
theorem rdSet_any (B g a n : Nat) (s : ByteArray) (v : Value) (cs : List Value) (w : World) (h : Rd w g s a false v) (hp : PR B w v n cs) (hn : n ≤ 60) (hg : g < B) (hB : B ≤ w.heap.size) (ha : a < s.size) (hs : s.size ≤ 24) :
    Calls Tryz.prog 133 #[.pointer (some ⟨g, 0, none⟩)] w fun e w' =>
      if s.data.toList[a + 1]? = some 94 then SetPost B g (a + 2) n 4 s v cs w e w' else SetPost B g (a + 1) n 3 s v cs w e w' := by
  obtain ⟨c0, c1, c2, c3, f0, f1, f2, f3⟩ := cells4 h
  have R1 := h.at ((a : Int) + 1) (a + 1) (by omega)
  have P1 := hp.set hg 1 (.int .i64 ((a : Int) + 1))
  have HF1 : Hid (Fr g v w (w.setCell ⟨g, 1, none⟩ (.int .i64 ((a : Int) + 1)))) := (Fr.refl g v w).store 1 _
  have hB1 : B ≤ (w.setCell ⟨g, 1, none⟩ (.int .i64 ((a : Int) + 1))).heap.size := by simpa [World.setCell] using hB
  have HP1 : Hid (PR B (w.setCell ⟨g, 1, none⟩ (.int .i64 ((a : Int) + 1))) v n cs) := P1
  have CI : Hid (Calls Tryz.prog 117 #[.pointer (some ⟨g, 0, none⟩), .int .u8 94] (w.setCell ⟨g, 1, none⟩ (.int .i64 ((a : Int) + 1))) fun e w' =>
      e = .returned (.bool (decide (s.data.toList[a + 1]? = some 94))) ∧ ∃ k, w' = (w.setCell ⟨g, 1, none⟩ (.int .i64 ((a : Int) + 1))).drewN k) := rdIs_any g (a + 1) 94 s false v _ R1 (by omega) (by decide)
  have HR1 : Hid (Rd (w.setCell ⟨g, 1, none⟩ (.int .i64 ((a : Int) + 1))) g s (a + 1) false v) := R1
  clear R1 P1 h hp
  by_cases hneg : s.data.toList[a + 1]? = some 94
  · simp only [if_pos hneg]
    have hlt2 : a + 1 < s.size := by
      have := (List.getElem?_eq_some_iff.1 hneg).1
      simpa using this
    rw [decide_eq_true hneg] at CI
    clear hneg
    go_enter Tryz.func133, Tryz.ntmps133
    go_wp2_with fail
    refine CI.out.mono ?_
    rintro e w1 ⟨rfl, kd, rfl⟩
    clear CI
    obtain ⟨w1, hw1⟩ : ∃ w1, w1 = (w.setCell ⟨g, 1, none⟩ (.int .i64 ((a : Int) + 1))).drewN kd := ⟨_, rfl⟩
    have R1 : Rd w1 g s (a + 1) false v := by rw [hw1]; exact HR1.out.draw kd
    have P1 : PR B w1 v n cs := by rw [hw1]; exact HP1.out
    have F1 : Fr g v w w1 := by rw [hw1]; exact HF1.out.draw kd
    have hB2 : B ≤ w1.heap.size := by rw [hw1]; exact hB1
    rw [← hw1]
    clear hw1 HR1 HP1 HF1 hB1 c0 c1 c2 c3 f0 f1 f2 f3
    obtain ⟨c0, c1, c2, c3, f0, f1, f2, f3⟩ := cells4 R1
    have R2 := R1.at ((a : Int) + 1 + 1) (a + 2) (by omega)
    have P2 := P1.set hg 1 (.int .i64 ((a : Int) + 1 + 1))
    have F2 := F1.store 1 (.int .i64 ((a : Int) + 1 + 1))
    obtain ⟨wb, hwb⟩ : ∃ wb, wb = w1.setCell ⟨g, 1, none⟩ (.int .i64 ((a : Int) + 1 + 1)) := ⟨_, rfl⟩
    rw [← hwb] at R2 P2 F2
    have hB3 : B ≤ wb.heap.size := by have := F2.1; omega
    have HF2 : Hid (Fr g v w wb) := F2
    go_wp2_with fail
    try rw [← hwb]
    clear hwb F2
    go_loopw [] (fun wr => ∃ k : Nat, Rd wr g s k false v ∧ PR B wr v n cs ∧ a + 2 ≤ k ∧ k ≤ s.size ∧ Hid (Fr g v w wr) ∧ Hid (Pp.close (s.data.toList.drop k) k = Pp.close (s.data.toList.drop (a + 2)) (a + 2))) (fun wr => s.size - placeOf g wr)
    case atStart => exact ⟨a + 2, R2, P2, Nat.le_refl _, by omega, HF2.out, rfl⟩
    case round =>
      clear R2 P2 HF2 hB3 R1 P1 F1 hB2 c0 c1 c2 c3 f0 f1 f2 f3
      obtain ⟨k, RR, PP, hbk, hks, HF, HC⟩ := hrel
      have hBr : B ≤ wr.heap.size := by have := HF.out.1; omega
      have hpl := RR.place
      obtain ⟨c0, c1, c2, c3, f0, f1, f2, f3⟩ := cells4 RR
      by_cases hgo : ∃ hk : k < s.size, s[k].toNat ≠ 93
      · obtain ⟨hk, hne⟩ := hgo
        have d1 : decide ((k : Int) < (s.size : Int)) = true := by simp; omega
        have hi : (k : Int) < (s.size : Int) := by omega
        have h256 : s[k].toNat < 256 := s[k].toNat_lt
        have d2 : ((s[k].toNat : Int) != 93) = true := by simp; omega
        have HC2 : Hid (Pp.close (s.data.toList.drop (k + 1)) (k + 1) = Pp.close (s.data.toList.drop (a + 2)) (a + 2)) := by
          have := HC.out
          rw [close_go s k hk hne] at this
          exact this
        clear hne
        go_wp2_with fail
        go_quiet (fail)
        go_wp2
        go_roundw
        case rel => exact ⟨k + 1, (RR.draw _).at _ (k + 1) (by omega), PR.set (B := B) (w := wr.drewN _) PP hg 1 _, by omega, by omega, (HF.out.draw _).store 1 _, HC2.out⟩
        case measure => rw [((RR.draw _).at _ (k + 1) (by omega)).place]; omega
      · have hE : Pp.close (s.data.toList.drop (a + 2)) (a + 2) = k := by
          rw [← HC.out]
          by_cases hk : k < s.size
          · refine close_stop s k hk ?_
            by_cases e : s[k].toNat = 93
            · exact e
            · exact absurd ⟨hk, e⟩ hgo
          · exact close_end s k (by omega)
        have HE : Hid (Pp.close (s.data.toList.drop (a + 2)) (a + 2) = k) := hE
        clear HC hE
        by_cases hk : k < s.size
        · have h93 : s[k].toNat = 93 := by
            by_cases e : s[k].toNat = 93
            · exact e
            · exact absurd ⟨hk, e⟩ hgo
          have d1 : decide ((k : Int) < (s.size : Int)) = true := by simp; omega
          have hi : (k : Int) < (s.size : Int) := by omega
          have d2 : ((s[k].toNat : Int) != 93) = false := by simp; omega
          have d3 : ((k : Int) == (s.size : Int)) = false := by simp; omega
          clear hgo h93
          by_cases hkb : k = a + 2
          · have d4 : ((k : Int) == ((a : Int) + 1 + 1)) = true := by simp; omega
            have HKB : Hid (k = a + 2) := hkb
            clear hkb
            go_wp2_with fail
            go_quiet (fail)
            go_wp2_with fail
            go_quiet (fail)
            go_wp2
            go_ret
            exact .inl ⟨.inr (by rw [HE.out]; exact HKB.out), rfl, ⟨k, by omega, Rd.bad (Rd.draw RR _)⟩, PR.set (B := B) (w := wr.drewN _) PP hg 2 _, Fr.store (Fr.draw HF.out _) 2 _⟩
          · have d4 : ((k : Int) == ((a : Int) + 1 + 1)) = false := by simp; omega
            have hbi : ((a : Int) + 1 + 1) ≤ (k : Int) := by omega
            go_wp2_with fail
            go_quiet (fail)
            go_wp2_with fail
            go_quiet (fail)
            go_wp2_with fail
            go_quiet (fail)
            go_wp2_with fail
            refine (rdPut_any B g (k + 1) n 4 s (s.extract (a + 2) k) v cs none 0 0 false _ (Rd.at (Rd.draw RR _) _ (k + 1) (by omega)) (PR.set (B := B) (w := wr.drewN _) PP hg 1 _) (by omega) hg (by simpa [World.setCell] using hBr)).mono ?_
            rintro e w5 ⟨v5, rfl, r5, p5, s5, h5, q5, n5⟩
            have F5 : Fr g v w w5 := (Fr.store (Fr.draw HF.out _) 1 _).next ⟨s5, h5, n5⟩
            go_wp2
            go_ret
            refine .inr ⟨by rw [HE.out]; omega, by rw [HE.out]; omega, rfl, v5, ?_, ?_, F5, fun q e => (q5 q e).imp id (fun hh => Nat.le_trans HF.out.1 (by simpa [World.setCell] using hh))⟩
            · rw [HE.out]; simpa using r5
            · rw [HE.out]; exact p5
        · have d1 : decide ((k : Int) < (s.size : Int)) = false := by simp; omega
          have d3 : ((k : Int) == (s.size : Int)) = true := by simp; omega
          clear hgo
          go_wp2_with fail
          go_quiet (fail)
          go_wp2_with fail
          go_quiet (fail)
          go_wp2
          go_ret
          exact .inl ⟨.inl (by rw [HE.out]; omega), rfl, ⟨k, by omega, Rd.bad (Rd.draw RR _)⟩, PR.set (B := B) (w := wr.drewN _) PP hg 2 _, Fr.store (Fr.draw HF.out _) 2 _⟩
  · simp only [if_neg hneg]
    rw [decide_eq_false hneg] at CI
    clear hneg
    go_enter Tryz.func133, Tryz.ntmps133
    go_wp2_with fail
    refine CI.out.mono ?_
    rintro e w1 ⟨rfl, kd, rfl⟩
    clear CI
    obtain ⟨w1, hw1⟩ : ∃ w1, w1 = (w.setCell ⟨g, 1, none⟩ (.int .i64 ((a : Int) + 1))).drewN kd := ⟨_, rfl⟩
    have R1 : Rd w1 g s (a + 1) false v := by rw [hw1]; exact HR1.out.draw kd
    have P1 : PR B w1 v n cs := by rw [hw1]; exact HP1.out
    have F1 : Fr g v w w1 := by rw [hw1]; exact HF1.out.draw kd
    have hB2 : B ≤ w1.heap.size := by rw [hw1]; exact hB1
    rw [← hw1]
    clear hw1 HR1 HP1 HF1 hB1 c0 c1 c2 c3 f0 f1 f2 f3
    obtain ⟨c0, c1, c2, c3, f0, f1, f2, f3⟩ := cells4 R1
    have R2 := R1
    have P2 := P1
    have F2 := F1
    obtain ⟨wb, hwb⟩ : ∃ wb, wb = w1 := ⟨_, rfl⟩
    rw [← hwb] at R2 P2 F2
    have hB3 : B ≤ wb.heap.size := by have := F2.1; omega
    have HF2 : Hid (Fr g v w wb) := F2
    go_wp2_with fail
    try rw [← hwb]
    clear hwb F2
    go_loopw [] (fun wr => ∃ k : Nat, Rd wr g s k false v ∧ PR B wr v n cs ∧ a + 1 ≤ k ∧ k ≤ s.size ∧ Hid (Fr g v w wr) ∧ Hid (Pp.close (s.data.toList.drop k) k = Pp.close (s.data.toList.drop (a + 1)) (a + 1))) (fun wr => s.size - placeOf g wr)
    case atStart => exact ⟨a + 1, R2, P2, Nat.le_refl _, by omega, HF2.out, rfl⟩
    case round =>
      clear R2 P2 HF2 hB3 R1 P1 F1 hB2 c0 c1 c2 c3 f0 f1 f2 f3
      obtain ⟨k, RR, PP, hbk, hks, HF, HC⟩ := hrel
      have hBr : B ≤ wr.heap.size := by have := HF.out.1; omega
      have hpl := RR.place
      obtain ⟨c0, c1, c2, c3, f0, f1, f2, f3⟩ := cells4 RR
      by_cases hgo : ∃ hk : k < s.size, s[k].toNat ≠ 93
      · obtain ⟨hk, hne⟩ := hgo
        have d1 : decide ((k : Int) < (s.size : Int)) = true := by simp; omega
        have hi : (k : Int) < (s.size : Int) := by omega
        have h256 : s[k].toNat < 256 := s[k].toNat_lt
        have d2 : ((s[k].toNat : Int) != 93) = true := by simp; omega
        have HC2 : Hid (Pp.close (s.data.toList.drop (k + 1)) (k + 1) = Pp.close (s.data.toList.drop (a + 1)) (a + 1)) := by
          have := HC.out
          rw [close_go s k hk hne] at this
          exact this
        clear hne
        go_wp2_with fail
        go_quiet (fail)
        go_wp2
        go_roundw
        case rel => exact ⟨k + 1, (RR.draw _).at _ (k + 1) (by omega), PR.set (B := B) (w := wr.drewN _) PP hg 1 _, by omega, by omega, (HF.out.draw _).store 1 _, HC2.out⟩
        case measure => rw [((RR.draw _).at _ (k + 1) (by omega)).place]; omega
      · have hE : Pp.close (s.data.toList.drop (a + 1)) (a + 1) = k := by
          rw [← HC.out]
          by_cases hk : k < s.size
          · refine close_stop s k hk ?_
            by_cases e : s[k].toNat = 93
            · exact e
            · exact absurd ⟨hk, e⟩ hgo
          · exact close_end s k (by omega)
        have HE : Hid (Pp.close (s.data.toList.drop (a + 1)) (a + 1) = k) := hE
        clear HC hE
        by_cases hk : k < s.size
        · have h93 : s[k].toNat = 93 := by
            by_cases e : s[k].toNat = 93
            · exact e
            · exact absurd ⟨hk, e⟩ hgo
          have d1 : decide ((k : Int) < (s.size : Int)) = true := by simp; omega
          have hi : (k : Int) < (s.size : Int) := by omega
          have d2 : ((s[k].toNat : Int) != 93) = false := by simp; omega
          have d3 : ((k : Int) == (s.size : Int)) = false := by simp; omega
          clear hgo h93
          by_cases hkb : k = a + 1
          · have d4 : ((k : Int) == ((a : Int) + 1)) = true := by simp; omega
            have HKB : Hid (k = a + 1) := hkb
            clear hkb
            go_wp2_with fail
            go_quiet (fail)
            go_wp2_with fail
            go_quiet (fail)
            go_wp2
            go_ret
            exact .inl ⟨.inr (by rw [HE.out]; exact HKB.out), rfl, ⟨k, by omega, Rd.bad (Rd.draw RR _)⟩, PR.set (B := B) (w := wr.drewN _) PP hg 2 _, Fr.store (Fr.draw HF.out _) 2 _⟩
          · have d4 : ((k : Int) == ((a : Int) + 1)) = false := by simp; omega
            have hbi : ((a : Int) + 1) ≤ (k : Int) := by omega
            go_wp2_with fail
            go_quiet (fail)
            go_wp2_with fail
            go_quiet (fail)
            go_wp2_with fail
            go_quiet (fail)
            go_wp2_with fail
            refine (rdPut_any B g (k + 1) n 3 s (s.extract (a + 1) k) v cs none 0 0 false _ (Rd.at (Rd.draw RR _) _ (k + 1) (by omega)) (PR.set (B := B) (w := wr.drewN _) PP hg 1 _) (by omega) hg (by simpa [World.setCell] using hBr)).mono ?_
            rintro e w5 ⟨v5, rfl, r5, p5, s5, h5, q5, n5⟩
            have F5 : Fr g v w w5 := (Fr.store (Fr.draw HF.out _) 1 _).next ⟨s5, h5, n5⟩
            go_wp2
            go_ret
            refine .inr ⟨by rw [HE.out]; omega, by rw [HE.out]; omega, rfl, v5, ?_, ?_, F5, fun q e => (q5 q e).imp id (fun hh => Nat.le_trans HF.out.1 (by simpa [World.setCell] using hh))⟩
            · rw [HE.out]; simpa using r5
            · rw [HE.out]; exact p5
        · have d1 : decide ((k : Int) < (s.size : Int)) = false := by simp; omega
          have d3 : ((k : Int) == (s.size : Int)) = true := by simp; omega
          clear hgo
          go_wp2_with fail
          go_quiet (fail)
          go_wp2_with fail
          go_quiet (fail)
          go_wp2
          go_ret
          exact .inl ⟨.inl (by rw [HE.out]; omega), rfl, ⟨k, by omega, Rd.bad (Rd.draw RR _)⟩, PR.set (B := B) (w := wr.drewN _) PP hg 2 _, Fr.store (Fr.draw HF.out _) 2 _⟩
end PartRdD
section PartRdE
open Go.RowKit

def Pp.no : Pp.Pc := ⟨0, [], []⟩
/-- A piece's kids: nothing, or the slice of a block of their own. -/
def kvOf (q : Nat) (ks : List Nat) : Value := if ks = [] then .slice none 0 0 else .slice (some ⟨q, 0, none⟩) ks.length ks.length
/-- The row v, in memory from block B on, holds the pieces ps; each piece's kids lie in a block of their own. -/
def RP (B : Nat) (w : World) (v : Value) (ps : List Pp.Pc) : Prop := ∃ (Q : Nat → Nat) (cs : List Value), PR B w v ps.length cs ∧
  (∀ i, i < ps.length → cs[i * 3]? = some (.int .i64 ((ps.getD i Pp.no).op : Int)) ∧ cs[i * 3 + 1]? = some (.string ⟨(ps.getD i Pp.no).text.toArray⟩) ∧ cs[i * 3 + 2]? = some (kvOf (Q i) (ps.getD i Pp.no).kids) ∧
    ((ps.getD i Pp.no).kids ≠ [] → B ≤ Q i ∧ v.ownBlock ≠ some (Q i) ∧ KidsBlk w (Q i) ((ps.getD i Pp.no).kids.map Int.ofNat))) ∧
  ∀ i j, i < j → j < ps.length → (ps.getD i Pp.no).kids ≠ [] → (ps.getD j Pp.no).kids ≠ [] → Q i < Q j

theorem PR.keep {B : Nat} {w w' : World} {v : Value} {n : Nat} {cs : List Value} (h : PR B w v n cs) (hb : ∀ q, v.ownBlock = some q → w'.heap[q]? = w.heap[q]?) : PR B w' v n cs := by
  refine ⟨h.1, ?_⟩
  rcases h.2 with hn | ⟨g, cap, cur, rfl, h1, hg, rest⟩
  · exact .inl hn
  · refine .inr ⟨g, cap, cur, rfl, h1, ?_, rest⟩
    rw [hb g rfl]
    exact hg
theorem PR.len {B : Nat} {w : World} {v : Value} {n : Nat} {cs : List Value} (h : PR B w v n cs) : cs.length = n * 3 := h.1

/-- What is done elsewhere leaves the pieces as they were. -/
theorem RP.keep {B : Nat} {w w' : World} {v : Value} {ps : List Pp.Pc} (h : RP B w v ps) (hb : ∀ q, B ≤ q → q < w.heap.size → w'.heap[q]? = w.heap[q]?) : RP B w' v ps := by
  obtain ⟨Q, cs, hp, hc, hm⟩ := h
  refine ⟨Q, cs, hp.keep fun q e => ?_, fun i hi => ?_, hm⟩
  · have := World.ownsRow.lt hp q e
    exact hb q this.1 this.2
  · obtain ⟨h1, h2, h3, h4⟩ := hc i hi
    refine ⟨h1, h2, h3, fun hne => ?_⟩
    obtain ⟨k1, k2, k3⟩ := h4 hne
    exact ⟨k1, k2, (hb _ k1 (blk_lt k3)).trans k3⟩
theorem RP.up {B : Nat} {w w' : World} {v : Value} {ps : List Pp.Pc} (h : RP B w v ps) (hb : Below w.heap.size w w') : RP B w' v ps := h.keep fun q _ hq => hb.block q hq
theorem RP.pr {B : Nat} {w : World} {v : Value} {ps : List Pp.Pc} (h : RP B w v ps) : ∃ cs, PR B w v ps.length cs := by obtain ⟨_, cs, hp, _⟩ := h; exact ⟨cs, hp⟩

theorem getD_push (ps : List Pp.Pc) (p : Pp.Pc) (i : Nat) : (ps ++ [p]).getD i Pp.no = if i < ps.length then ps.getD i Pp.no else if i = ps.length then p else Pp.no := by
  by_cases h : i < ps.length
  · simp [List.getElem?_append_left, h]
  · rw [if_neg h]
    by_cases h2 : i = ps.length
    · subst h2; simp
    · rw [if_neg h2]
      simp only [List.getD_eq_getElem?_getD]
      rw [List.getElem?_eq_none (by simp; omega)]
      rfl

/-- One piece more; q: the block of its kids, newer than all that was there. -/
theorem RP.put {B g q : Nat} {w0 w w' : World} {v v' : Value} {ps : List Pp.Pc} {p : Pp.Pc} {cs cs' : List Value} (h : RP B w0 v ps) (hb : Below w0.heap.size w0 w) (hq : p.kids ≠ [] → w0.heap.size ≤ q ∧ q < w.heap.size ∧ KidsBlk w q (p.kids.map Int.ofNat))
    (hg : g < B) (hB : B ≤ w0.heap.size) (hcs : PR B w v ps.length cs) (hp : PR B w' v' (ps.length + 1) cs') (he : cs' = cs ++ [.int .i64 (p.op : Int), .string ⟨p.text.toArray⟩, kvOf q p.kids]) (hcs0 : ∀ cs0, PR B w0 v ps.length cs0 → cs0 = cs)
    (hf : ∀ k, k < w.heap.size → k ≠ g → v.ownBlock ≠ some k → w'.heap[k]? = w.heap[k]?) (ho : ∀ q, v'.ownBlock = some q → v.ownBlock = some q ∨ w.heap.size ≤ q) : RP B w' v' (ps ++ [p]) := by
  obtain ⟨Q, cs1, hp1, hc, hm⟩ := h
  obtain rfl := hcs0 cs1 hp1
  have hlen := hcs.len
  subst he
  have hw0 := hb.size
  have hlt : ∀ i, i < ps.length → (ps.getD i Pp.no).kids ≠ [] → Q i < w0.heap.size := fun i hi hne => blk_lt ((hc i hi).2.2.2 hne).2.2
  refine ⟨fun i => if i = ps.length then q else Q i, _, by simpa using hp, fun i hi => ?_, fun i j hij hj hi1 hj1 => ?_⟩
  · rw [getD_push]
    by_cases h : i < ps.length
    · rw [if_pos h]
      simp only [if_neg (show ¬ i = ps.length by omega)]
      obtain ⟨h1, h2, h3, h4⟩ := hc i h
      refine ⟨by rw [List.getElem?_append_left (by omega)]; exact h1, by rw [List.getElem?_append_left (by omega)]; exact h2, by rw [List.getElem?_append_left (by omega)]; exact h3, fun hne => ?_⟩
      obtain ⟨k1, k2, k3⟩ := h4 hne
      have hl := hlt i h hne
      refine ⟨k1, fun e => ?_, ?_⟩
      · rcases ho _ e with e2 | e2
        · exact k2 e2
        · omega
      · exact (hf (Q i) (by omega) (by omega) k2).trans ((hb.block _ hl).trans k3)
    · have hi2 : i = ps.length := by simp at hi; omega
      subst hi2
      simp only [if_neg h, ↓reduceIte]
      refine ⟨?_, ?_, ?_, fun hne => ?_⟩
      · rw [List.getElem?_append_right (by omega), hlen, Nat.sub_self]; rfl
      · rw [List.getElem?_append_right (by omega), hlen, Nat.add_sub_cancel_left]; rfl
      · rw [List.getElem?_append_right (by omega), hlen, Nat.add_sub_cancel_left]; rfl
      · obtain ⟨k1, k2, k3⟩ := hq hne
        have hvq : v.ownBlock ≠ some q := by
          intro e
          have := (World.ownsRow.lt hp1 q e).2
          omega
        refine ⟨by omega, fun e => ?_, ?_⟩
        · rcases ho _ e with e2 | e2
          · exact hvq e2
          · omega
        · exact (hf q k2 (by omega) hvq).trans k3
  · rw [getD_push] at hi1 hj1
    simp at hj
    have hi : i < ps.length := by omega
    rw [if_pos hi] at hi1
    simp only [if_neg (show ¬ i = ps.length by omega)]
    by_cases hj2 : j < ps.length
    · rw [if_pos hj2] at hj1
      simp only [if_neg (show ¬ j = ps.length by omega)]
      exact hm i j hij hj2 hi1 hj1
    · have hj3 : j = ps.length := by omega
      subst hj3
      simp only [if_neg hj2, ↓reduceIte] at hj1 ⊢
      have := hlt i hi hi1
      have := (hq hj1).1
      omega

/-- What may have changed: the reader itself, and what lies from block B on. -/
def FB (g B : Nat) (w w' : World) : Prop := w.heap.size ≤ w'.heap.size ∧ (∀ k, k < B → k ≠ g → w'.heap[k]? = w.heap[k]?) ∧ Env w w'
theorem FB.refl (g B : Nat) (w : World) : FB g B w w := ⟨Nat.le_refl _, fun _ _ _ => rfl, rfl, rfl, rfl⟩
theorem FB.trans {g B : Nat} {w w1 w2 : World} (h1 : FB g B w w1) (h2 : FB g B w1 w2) : FB g B w w2 := ⟨Nat.le_trans h1.1 h2.1, fun k hk hg => (h2.2.1 k hk hg).trans (h1.2.1 k hk hg), h2.2.2.1.trans h1.2.2.1, h2.2.2.2.1.trans h1.2.2.2.1, h2.2.2.2.2.trans h1.2.2.2.2⟩
theorem FB.of {g B : Nat} {w w' : World} (h : Below B w w') : FB g B w w' := ⟨h.size, fun k hk _ => h.block k hk, h.os, h.tape, h.output⟩
theorem FB.fr {g B : Nat} {v : Value} {n : Nat} {cs : List Value} {w w' : World} (h : Fr g v w w') (hp : PR B w v n cs) (hB : B ≤ w.heap.size) : FB g B w w' :=
  ⟨h.1, fun k hk hg => h.2.1 k (by omega) hg (fun e => by have := (World.ownsRow.lt hp k e).1; omega), h.2.2⟩

/-- What a part of the reader leaves, where R is what it should tell. -/
def RdPost (B g : Nat) (s : ByteArray) (w : World) (N : Nat) (R : Option (Nat × List Pp.Pc × Nat)) (e : Ending) (w' : World) : Prop :=
  FB g B w w' ∧ match R with
  | none => ∃ (k : Int) (a' : Nat) (v' : Value) (n' : Nat) (cs' : List Value), e = .returned (.int .i64 k) ∧ a' ≤ s.size ∧ Rd w' g s a' true v' ∧ PR B w' v' n' cs' ∧ n' ≤ N
  | some (a', o, k) => e = .returned (.int .i64 (k : Int)) ∧ a' ≤ s.size ∧ o.length ≤ 60 ∧ ∃ v', Rd w' g s a' false v' ∧ RP B w' v' o

theorem PR.unique {B : Nat} {w w' : World} {v : Value} {n : Nat} {cs cs' : List Value} (h : PR B w v n cs) (h' : PR B w' v n cs') (hb : ∀ q, v.ownBlock = some q → w'.heap[q]? = w.heap[q]?) : cs = cs' := by
  rcases h.2 with ⟨hv, hn⟩ | ⟨g, cap, cur, hv, h1, hg, rest⟩
  · have e1 : cs.length = n * 3 := h.len
    have e2 : cs'.length = n * 3 := h'.len
    subst hn
    rw [List.eq_nil_of_length_eq_zero (l := cs) (by omega), List.eq_nil_of_length_eq_zero (l := cs') (by omega)]
  · subst hv
    have e1 : cs.length = n * 3 := h.len
    have e2 : cs'.length = n * 3 := h'.len
    have hk := hb g rfl
    apply List.ext_getElem? 
    intro i
    by_cases hi : i < n * 3
    · rw [← World.ownsRow.cellAt h i hi, ← World.ownsRow.cellAt h' i hi]
      simp [World.cell?, hk]
    · rw [List.getElem?_eq_none (by omega), List.getElem?_eq_none (by omega)]

/-- One piece more. w0: the world ahead of its kids. -/
theorem rdPutP (B g a q : Nat) (s : ByteArray) (v : Value) (ps : List Pp.Pc) (p : Pp.Pc) (w0 w : World) (h : Rd w g s a false v) (hr : RP B w0 v ps) (hb : Below w0.heap.size w0 w) (hg : g < B) (hB : B ≤ w0.heap.size) (ha : a ≤ s.size) (hn : ps.length ≤ 60)
    (hq : p.kids ≠ [] → w0.heap.size ≤ q ∧ q < w.heap.size ∧ KidsBlk w q (p.kids.map Int.ofNat)) :
    Calls Tryz.prog 118 #[.pointer (some ⟨g, 0, none⟩), .agg #[.int .i64 (p.op : Int), .string ⟨p.text.toArray⟩, kvOf q p.kids]] w (RdPost B g s w 61 ((Pp.put ps p).map fun (o, k) => (a, o, k))) := by
  obtain ⟨cs, hp⟩ := (hr.up hb).pr
  have hsz := hb.size
  obtain ⟨ka, kl, kc, hkv⟩ : ∃ ka kl kc, kvOf q p.kids = .slice ka kl kc := by
    unfold kvOf
    split
    · exact ⟨_, _, _, rfl⟩
    · exact ⟨_, _, _, rfl⟩
  rw [hkv]
  refine (rdPut_any B g a ps.length p.op s ⟨p.text.toArray⟩ v cs ka kl kc false w h hp (by omega) hg (by omega)).mono ?_
  rintro e w' ⟨v', rfl, hR, hP, hs, hf, ho, hen⟩
  refine ⟨FB.fr ⟨hs, hf, hen⟩ hp (by omega), ?_⟩
  by_cases h60 : 60 < ps.length + 1
  · simp only [Pp.put, if_pos h60, Option.map_none]
    simp only [h60, decide_true, Bool.or_true] at hR
    exact ⟨_, a, v', _, _, rfl, ha, hR, hP, by omega⟩
  · simp only [Pp.put, if_neg h60, Option.map_some]
    simp only [h60, decide_false, Bool.or_false] at hR
    refine ⟨trivial, ha, by simp; omega, v', hR, hr.put hb hq hg hB hp hP (by rw [hkv]) (fun cs0 h0 => ?_) hf ho⟩
    exact h0.unique hp fun q' e => hb.block q' (World.ownsRow.lt h0 q' e).2
end PartRdE
section PartPlainA
namespace Pl

/-- The byte of n's least seven bits, marked as one that goes on. -/
def hb (n : Nat) : UInt8 := UInt8.ofNat (n % 128 + 128)

/-- The bytes of n, with room for f + 1 of them. -/
def vb : Nat → Nat → List UInt8
  | 0, n => [UInt8.ofNat n]
  | f + 1, n => if 127 < n then hb n :: vb f (n / 128) else [UInt8.ofNat n]

theorem vb_more (f n : Nat) (h : 127 < n) : vb (f + 1) n = hb n :: vb f (n / 128) := by
  rw [vb, if_pos h]
theorem vb_last (f n : Nat) (h : ¬ 127 < n) : vb f n = [UInt8.ofNat n] := by
  cases f with
  | zero => rfl
  | succ f => rw [vb, if_neg h]

/-- The number of a text of bytes, seven bits of each, the least first. -/
def val : List UInt8 → Nat
  | [] => 0
  | b :: l => b.toNat % 128 + 128 * val l

theorem val_snoc (l : List UInt8) (b : UInt8) : val (l ++ [b]) = val l + 128 ^ l.length * (b.toNat % 128) := by
  induction l with
  | nil => simp [val]
  | cons a l ih =>
    simp only [List.cons_append, val, ih, List.length_cons, Nat.pow_succ]
    have : 128 * (128 ^ l.length * (b.toNat % 128)) = 128 ^ l.length * 128 * (b.toNat % 128) := by
      rw [Nat.mul_comm (128 ^ l.length) 128, Nat.mul_assoc]
    omega

theorem val_lt (l : List UInt8) : val l < 128 ^ l.length := by
  induction l with
  | nil => simp [val]
  | cons a l ih => simp only [val, List.length_cons, Nat.pow_succ]; omega

/-- Every byte of l goes on (is 128 or more). -/
def Goes (l : List UInt8) : Prop := ∀ b ∈ l, 128 ≤ b.toNat

theorem val_zero_last (l : List UInt8) (c : UInt8) (hc : c.toNat < 128) (h : val (l ++ [c]) = 0) : c.toNat = 0 := by
  rw [val_snoc] at h
  have h2 : 128 ^ l.length * (c.toNat % 128) = 0 := by omega
  rcases Nat.mul_eq_zero.1 h2 with h3 | h3
  · exact absurd h3 (Nat.ne_of_gt (Nat.pow_pos (by omega)))
  · omega

theorem small (k : Nat) (h : k < 256) : (UInt8.ofNat k).toNat = k := by simp [UInt8.toNat_ofNat']; omega

theorem hb_nat (n : Nat) : (hb n).toNat = n % 128 + 128 := small _ (by omega)
theorem ofNat_toNat (b : UInt8) (n : Nat) (h : n = b.toNat) : UInt8.ofNat n = b := by subst h; simp

/-- A text of bytes that go on and a last one that does not is what its number is written as, just when the last one is no nought behind others. -/
theorem vb_val (f : Nat) (l : List UInt8) (c : UInt8) (hl : Goes l) (hc : c.toNat < 128) (hf : l.length ≤ f) :
    vb f (val (l ++ [c])) = l ++ [c] ↔ ¬ (c.toNat = 0 ∧ 0 < l.length) := by
  induction l generalizing f with
  | nil =>
    have e : val ([] ++ [c]) = c.toNat := by simp [val]; omega
    rw [e, vb_last f _ (by omega)]
    simp
  | cons a l ih =>
    have ha : 128 ≤ a.toNat := hl a (by simp)
    have ha2 : a.toNat < 256 := a.toNat_lt
    obtain ⟨g, rfl⟩ : ∃ g, f = g + 1 := ⟨f - 1, by simp at hf; omega⟩
    have hi := ih g (fun b hb => hl b (by simp [hb])) (by simp at hf; omega)
    have e : val (a :: l ++ [c]) = a.toNat % 128 + 128 * val (l ++ [c]) := by simp [val]
    rw [e]
    by_cases hz : val (l ++ [c]) = 0
    · have h0 := val_zero_last l c hc hz
      rw [vb_last _ _ (by omega)]
      simp [h0]
    · rw [vb_more _ _ (by omega)]
      have e1 : (a.toNat % 128 + 128 * val (l ++ [c])) / 128 = val (l ++ [c]) := by omega
      have e2 : (a.toNat % 128 + 128 * val (l ++ [c])) % 128 + 128 = a.toNat := by omega
      rw [e1, show hb (a.toNat % 128 + 128 * val (l ++ [c])) = a from ofNat_toNat a _ e2]
      simp only [List.cons_append, List.cons.injEq, true_and, hi, List.length_cons]
      constructor
      · rintro h ⟨h0, _⟩
        apply h
        refine ⟨h0, ?_⟩
        cases l with
        | nil => simp [val] at hz; omega
        | cons => simp
      · rintro h ⟨h0, _⟩
        exact h ⟨h0, by omega⟩

end Pl
end PartPlainA
end Go.Proofs.YtehagonaacbmiaaGreat
