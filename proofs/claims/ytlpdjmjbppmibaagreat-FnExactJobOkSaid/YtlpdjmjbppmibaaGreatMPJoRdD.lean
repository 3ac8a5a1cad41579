/- The specification's reader of a pattern: a set. -/
import Derived.Test.YtlpdjmjbppmibaaGreatMPJoZac
namespace Go.Proofs.YtlpdjmjbppmibaaGreat
open Go.RowKit

/-- What may have changed: the reader itself, the row's own block, what is new. -/
def Fr (g : Nat) (v : Value) (w w' : World) : Prop := w.heap.size ≤ w'.heap.size ∧ (∀ k, k < w.heap.size → k ≠ g → v.ownBlock ≠ some k → w'.heap[k]? = w.heap[k]?) ∧ Env w w'
theorem Fr.refl (g : Nat) (v : Value) (w : World) : Fr g v w w := ⟨Nat.le_refl _, fun _ _ _ _ => rfl, rfl, rfl, rfl⟩
theorem Fr.draw {g : Nat} {v : Value} {w w' : World} (h : Fr g v w w') (k : Nat) : Fr g v w (w'.drewN k) := h
theorem Fr.store {g : Nat} {v : Value} {w w' : World} (h : Fr g v w w') (o : Nat) (u : Value) : Fr g v w (w'.setCell ⟨g, o, none⟩ u) := by
  refine ⟨by simpa [World.setCell] using h.1, fun k hk hkg hkv => ?_, h.2.2⟩
  rw [Below.heap_setCell _ _ _ _ (by show k ≠ g; exact hkg)]
  exact h.2.1 k hk hkg hkv
theorem Fr.next {g : Nat} {v : Value} {w w1 w2 : World} (h1 : Fr g v w w1) (h2 : Fr g v w1 w2) : Fr g v w w2 :=
  ⟨Nat.le_trans h1.1 h2.1, fun k hk hkg hkv => (h2.2.1 k (Nat.lt_of_lt_of_le hk h1.1) hkg hkv).trans (h1.2.1 k hk hkg hkv), h2.2.2.1.trans h1.2.2.1, h2.2.2.2.1.trans h1.2.2.2.1, h2.2.2.2.2.trans h1.2.2.2.2⟩
theorem Rd.at {w : World} {g : Nat} {s : ByteArray} {a : Nat} {bad : Bool} {v : Value} (h : Rd w g s a bad v) (z : Int) (b : Nat) (e : z = (b : Int)) : Rd (w.setCell ⟨g, 1, none⟩ (.int .i64 z)) g s b bad v := by
  subst e
  unfold Rd at h ⊢
  simp [World.setCell, Array.getElem?_modify, h]
theorem Rd.bad {w : World} {g : Nat} {s : ByteArray} {a : Nat} {bad : Bool} {v : Value} (h : Rd w g s a bad v) : Rd (w.setCell ⟨g, 2, none⟩ (.bool true)) g s a true v := set2' h (.bool true)
theorem Rd.draw {w : World} {g : Nat} {s : ByteArray} {a : Nat} {bad : Bool} {v : Value} (h : Rd w g s a bad v) (k : Nat) : Rd (w.drewN k) g s a bad v := h
/-- The reader's place, as the world holds it. -/
def placeOf (g : Nat) (w : World) : Nat := match w.cell? ⟨g, 1, none⟩ with
  | some (.int _ z) => z.toNat
  | _ => 0
theorem Rd.place {w : World} {g : Nat} {s : ByteArray} {a : Nat} {bad : Bool} {v : Value} (h : Rd w g s a bad v) : placeOf g w = a := by
  obtain ⟨_, c1, _⟩ := cells4 h
  unfold placeOf
  rw [c1]
  simp

theorem drop_at4 (s : ByteArray) (k : Nat) (h : k < s.size) : s.data.toList.drop k = s[k] :: s.data.toList.drop (k + 1) := by
  rw [List.drop_eq_getElem_cons (by simpa using h)]; rfl
theorem close_stop (s : ByteArray) (k : Nat) (h : k < s.size) (e : s[k].toNat = 93) : Pp.close (s.data.toList.drop k) k = k := by
  have : s[k] = 93 := UInt8.toNat_inj.1 (by rw [e]; rfl)
  rw [drop_at4 s k h, Pp.close, if_pos this]
theorem close_go (s : ByteArray) (k : Nat) (h : k < s.size) (e : s[k].toNat ≠ 93) : Pp.close (s.data.toList.drop k) k = Pp.close (s.data.toList.drop (k + 1)) (k + 1) := by
  have : ¬ s[k] = 93 := by intro e2; apply e; rw [e2]; rfl
  rw [drop_at4 s k h, Pp.close, if_neg this]
theorem close_end (s : ByteArray) (k : Nat) (h : k = s.size) : Pp.close (s.data.toList.drop k) k = k := by
  rw [List.drop_of_length_le (by simp; omega), Pp.close]

/-- What comes of a set whose signs begin at b. -/
def SetPost (B g b n op : Nat) (s : ByteArray) (v : Value) (cs : List Value) (w : World) (r : Ending) (w' : World) : Prop :=
  ((Pp.close (s.data.toList.drop b) b = s.size ∨ Pp.close (s.data.toList.drop b) b = b) ∧ r = .returned (.int .i64 0) ∧ (∃ a', a' ≤ s.size ∧ Rd w' g s a' true v) ∧ PR B w' v n cs ∧ Fr g v w w') ∨
  (b < Pp.close (s.data.toList.drop b) b ∧ Pp.close (s.data.toList.drop b) b < s.size ∧ r = .returned (.int .i64 (n : Int)) ∧ ∃ v', Rd w' g s (Pp.close (s.data.toList.drop b) b + 1) (decide (60 < n + 1)) v' ∧
    PR B w' v' (n + 1) (cs ++ [.int .i64 (op : Int), .string (s.extract b (Pp.close (s.data.toList.drop b) b)), .slice none 0 0]) ∧ Fr g v w w' ∧ ∀ q, v'.ownBlock = some q → v.ownBlock = some q ∨ w.heap.size ≤ q)

set_option maxHeartbeats 4000000 in
set_option maxRecDepth 100000 in
/-- A set, from its opening sign on. -/
theorem rdSet_any (B g a n : Nat) (s : ByteArray) (v : Value) (cs : List Value) (w : World) (h : Rd w g s a false v) (hp : PR B w v n cs) (hn : n ≤ 60) (hg : g < B) (hB : B ≤ w.heap.size) (ha : a < s.size) (hs : s.size ≤ 24) :
    Calls Tryz.prog 133 #[.pointer (some ⟨g, 0, none⟩)] w fun e w' =>
      if s.data.toList[a + 1]? = some 94 then SetPost B g (a + 2) n 4 s v cs w e w' else SetPost B g (a + 1) n 3 s v cs w e w' := by
  obtain ⟨c0, c1, c2, c3, f0, f1, f2, f3⟩ := cells4 h
  have R1 := h.at ((a : Int) + 1) (a + 1) (by omega)
  have P1 := hp.set hg 1 (.int .i64 ((a : Int) + 1))
  have HF1 : Hid (Fr g v w (w.setCell ⟨g, 1, none⟩ (.int .i64 ((a : Int) + 1)))) := (Fr.refl g v w).store 1 _
  have hB1 : B ≤ (w.setCell ⟨g, 1, none⟩ (.int .i64 ((a : Int) + 1))).heap.size := by simpa [World.setCell] using hB
  have HP1 : Hid (PR B (w.setCell ⟨g, 1, none⟩ (.int .i64 ((a : Int) + 1))) v n cs) := P1
  have CI : Hid (Calls Tryz.prog 117 #[.pointer (some ⟨g, 0, none⟩), .int .u8 94] (w.setCell ⟨g, 1, none⟩ (.int .i64 ((a : Int) + 1))) fun e w' =>
      e = .returned (.bool (decide (s.data.toList[a + 1]? = some 94))) ∧ ∃ k, w' = (w.setCell ⟨g, 1, none⟩ (.int .i64 ((a : Int) + 1))).drewN k) := rdIs_any g (a + 1) 94 s false v _ R1 (by omega) (by decide)
  have HR1 : Hid (Rd (w.setCell ⟨g, 1, none⟩ (.int .i64 ((a : Int) + 1))) g s (a + 1) false v) := R1
  clear R1 P1 h hp
  by_cases hneg : s.data.toList[a + 1]? = some 94
  · simp only [if_pos hneg]
    have hlt2 : a + 1 < s.size := by
      have := (List.getElem?_eq_some_iff.1 hneg).1
      simpa using this
    rw [decide_eq_true hneg] at CI
    clear hneg
    go_enter Tryz.func133, Tryz.ntmps133
    go_wp2_with fail
    refine CI.out.mono ?_
    rintro e w1 ⟨rfl, kd, rfl⟩
    clear CI
    obtain ⟨w1, hw1⟩ : ∃ w1, w1 = (w.setCell ⟨g, 1, none⟩ (.int .i64 ((a : Int) + 1))).drewN kd := ⟨_, rfl⟩
    have R1 : Rd w1 g s (a + 1) false v := by rw [hw1]; exact HR1.out.draw kd
    have P1 : PR B w1 v n cs := by rw [hw1]; exact HP1.out
    have F1 : Fr g v w w1 := by rw [hw1]; exact HF1.out.draw kd
    have hB2 : B ≤ w1.heap.size := by rw [hw1]; exact hB1
    rw [← hw1]
    clear hw1 HR1 HP1 HF1 hB1 c0 c1 c2 c3 f0 f1 f2 f3
    obtain ⟨c0, c1, c2, c3, f0, f1, f2, f3⟩ := cells4 R1
    have R2 := R1.at ((a : Int) + 1 + 1) (a + 2) (by omega)
    have P2 := P1.set hg 1 (.int .i64 ((a : Int) + 1 + 1))
    have F2 := F1.store 1 (.int .i64 ((a : Int) + 1 + 1))
    obtain ⟨wb, hwb⟩ : ∃ wb, wb = w1.setCell ⟨g, 1, none⟩ (.int .i64 ((a : Int) + 1 + 1)) := ⟨_, rfl⟩
    rw [← hwb] at R2 P2 F2
    have hB3 : B ≤ wb.heap.size := by have := F2.1; omega
    have HF2 : Hid (Fr g v w wb) := F2
    go_wp2_with fail
    try rw [← hwb]
    clear hwb F2
    go_loopw [] (fun wr => ∃ k : Nat, Rd wr g s k false v ∧ PR B wr v n cs ∧ a + 2 ≤ k ∧ k ≤ s.size ∧ Hid (Fr g v w wr) ∧ Hid (Pp.close (s.data.toList.drop k) k = Pp.close (s.data.toList.drop (a + 2)) (a + 2))) (fun wr => s.size - placeOf g wr)
    case atStart => exact ⟨a + 2, R2, P2, Nat.le_refl _, by omega, HF2.out, rfl⟩
    case round =>
      clear R2 P2 HF2 hB3 R1 P1 F1 hB2 c0 c1 c2 c3 f0 f1 f2 f3
      obtain ⟨k, RR, PP, hbk, hks, HF, HC⟩ := hrel
      have hBr : B ≤ wr.heap.size := by have := HF.out.1; omega
      have hpl := RR.place
      obtain ⟨c0, c1, c2, c3, f0, f1, f2, f3⟩ := cells4 RR
      by_cases hgo : ∃ hk : k < s.size, s[k].toNat ≠ 93
      · obtain ⟨hk, hne⟩ := hgo
        have d1 : decide ((k : Int) < (s.size : Int)) = true := by simp; omega
        have hi : (k : Int) < (s.size : Int) := by omega
        have h256 : s[k].toNat < 256 := s[k].toNat_lt
        have d2 : ((s[k].toNat : Int) != 93) = true := by simp; omega
        have HC2 : Hid (Pp.close (s.data.toList.drop (k + 1)) (k + 1) = Pp.close (s.data.toList.drop (a + 2)) (a + 2)) := by
          have := HC.out
          rw [close_go s k hk hne] at this
          exact this
        clear hne
        go_wp2_with fail
        go_quiet (fail)
        go_wp2
        go_roundw
        case rel => exact ⟨k + 1, (RR.draw _).at _ (k + 1) (by omega), PR.set (B := B) (w := wr.drewN _) PP hg 1 _, by omega, by omega, (HF.out.draw _).store 1 _, HC2.out⟩
        case measure => rw [((RR.draw _).at _ (k + 1) (by omega)).place]; omega
      · have hE : Pp.close (s.data.toList.drop (a + 2)) (a + 2) = k := by
          rw [← HC.out]
          by_cases hk : k < s.size
          · refine close_stop s k hk ?_
            by_cases e : s[k].toNat = 93
            · exact e
            · exact absurd ⟨hk, e⟩ hgo
          · exact close_end s k (by omega)
        have HE : Hid (Pp.close (s.data.toList.drop (a + 2)) (a + 2) = k) := hE
        clear HC hE
        by_cases hk : k < s.size
        · have h93 : s[k].toNat = 93 := by
            by_cases e : s[k].toNat = 93
            · exact e
            · exact absurd ⟨hk, e⟩ hgo
          have d1 : decide ((k : Int) < (s.size : Int)) = true := by simp; omega
          have hi : (k : Int) < (s.size : Int) := by omega
          have d2 : ((s[k].toNat : Int) != 93) = false := by simp; omega
          have d3 : ((k : Int) == (s.size : Int)) = false := by simp; omega
          clear hgo h93
          by_cases hkb : k = a + 2
          · have d4 : ((k : Int) == ((a : Int) + 1 + 1)) = true := by simp; omega
            have HKB : Hid (k = a + 2) := hkb
            clear hkb
            go_wp2_with fail
            go_quiet (fail)
            go_wp2_with fail
            go_quiet (fail)
            go_wp2
            go_ret
            exact .inl ⟨.inr (by rw [HE.out]; exact HKB.out), rfl, ⟨k, by omega, Rd.bad (Rd.draw RR _)⟩, PR.set (B := B) (w := wr.drewN _) PP hg 2 _, Fr.store (Fr.draw HF.out _) 2 _⟩
          · have d4 : ((k : Int) == ((a : Int) + 1 + 1)) = false := by simp; omega
            have hbi : ((a : Int) + 1 + 1) ≤ (k : Int) := by omega
            go_wp2_with fail
            go_quiet (fail)
            go_wp2_with fail
            go_quiet (fail)
            go_wp2_with fail
            go_quiet (fail)
            go_wp2_with fail
            refine (rdPut_any B g (k + 1) n 4 s (s.extract (a + 2) k) v cs none 0 0 false _ (Rd.at (Rd.draw RR _) _ (k + 1) (by omega)) (PR.set (B := B) (w := wr.drewN _) PP hg 1 _) (by omega) hg (by simpa [World.setCell] using hBr)).mono ?_
            rintro e w5 ⟨v5, rfl, r5, p5, s5, h5, q5, n5⟩
            have F5 : Fr g v w w5 := (Fr.store (Fr.draw HF.out _) 1 _).next ⟨s5, h5, n5⟩
            go_wp2
            go_ret
            refine .inr ⟨by rw [HE.out]; omega, by rw [HE.out]; omega, rfl, v5, ?_, ?_, F5, fun q e => (q5 q e).imp id (fun hh => Nat.le_trans HF.out.1 (by simpa [World.setCell] using hh))⟩
            · rw [HE.out]; simpa using r5
            · rw [HE.out]; exact p5
        · have d1 : decide ((k : Int) < (s.size : Int)) = false := by simp; omega
          have d3 : ((k : Int) == (s.size : Int)) = true := by simp; omega
          clear hgo
          go_wp2_with fail
          go_quiet (fail)
          go_wp2_with fail
          go_quiet (fail)
          go_wp2
          go_ret
          exact .inl ⟨.inl (by rw [HE.out]; omega), rfl, ⟨k, by omega, Rd.bad (Rd.draw RR _)⟩, PR.set (B := B) (w := wr.drewN _) PP hg 2 _, Fr.store (Fr.draw HF.out _) 2 _⟩
  · simp only [if_neg hneg]
    rw [decide_eq_false hneg] at CI
    clear hneg
    go_enter Tryz.func133, Tryz.ntmps133
    go_wp2_with fail
    refine CI.out.mono ?_
    rintro e w1 ⟨rfl, kd, rfl⟩
    clear CI
    obtain ⟨w1, hw1⟩ : ∃ w1, w1 = (w.setCell ⟨g, 1, none⟩ (.int .i64 ((a : Int) + 1))).drewN kd := ⟨_, rfl⟩
    have R1 : Rd w1 g s (a + 1) false v := by rw [hw1]; exact HR1.out.draw kd
    have P1 : PR B w1 v n cs := by rw [hw1]; exact HP1.out
    have F1 : Fr g v w w1 := by rw [hw1]; exact HF1.out.draw kd
    have hB2 : B ≤ w1.heap.size := by rw [hw1]; exact hB1
    rw [← hw1]
    clear hw1 HR1 HP1 HF1 hB1 c0 c1 c2 c3 f0 f1 f2 f3
    obtain ⟨c0, c1, c2, c3, f0, f1, f2, f3⟩ := cells4 R1
    have R2 := R1
    have P2 := P1
    have F2 := F1
    obtain ⟨wb, hwb⟩ : ∃ wb, wb = w1 := ⟨_, rfl⟩
    rw [← hwb] at R2 P2 F2
    have hB3 : B ≤ wb.heap.size := by have := F2.1; omega
    have HF2 : Hid (Fr g v w wb) := F2
    go_wp2_with fail
    try rw [← hwb]
    clear hwb F2
    go_loopw [] (fun wr => ∃ k : Nat, Rd wr g s k false v ∧ PR B wr v n cs ∧ a + 1 ≤ k ∧ k ≤ s.size ∧ Hid (Fr g v w wr) ∧ Hid (Pp.close (s.data.toList.drop k) k = Pp.close (s.data.toList.drop (a + 1)) (a + 1))) (fun wr => s.size - placeOf g wr)
    case atStart => exact ⟨a + 1, R2, P2, Nat.le_refl _, by omega, HF2.out, rfl⟩
    case round =>
      clear R2 P2 HF2 hB3 R1 P1 F1 hB2 c0 c1 c2 c3 f0 f1 f2 f3
      obtain ⟨k, RR, PP, hbk, hks, HF, HC⟩ := hrel
      have hBr : B ≤ wr.heap.size := by have := HF.out.1; omega
      have hpl := RR.place
      obtain ⟨c0, c1, c2, c3, f0, f1, f2, f3⟩ := cells4 RR
      by_cases hgo : ∃ hk : k < s.size, s[k].toNat ≠ 93
      · obtain ⟨hk, hne⟩ := hgo
        have d1 : decide ((k : Int) < (s.size : Int)) = true := by simp; omega
        have hi : (k : Int) < (s.size : Int) := by omega
        have h256 : s[k].toNat < 256 := s[k].toNat_lt
        have d2 : ((s[k].toNat : Int) != 93) = true := by simp; omega
        have HC2 : Hid (Pp.close (s.data.toList.drop (k + 1)) (k + 1) = Pp.close (s.data.toList.drop (a + 1)) (a + 1)) := by
          have := HC.out
          rw [close_go s k hk hne] at this
          exact this
        clear hne
        go_wp2_with fail
        go_quiet (fail)
        go_wp2
        go_roundw
        case rel => exact ⟨k + 1, (RR.draw _).at _ (k + 1) (by omega), PR.set (B := B) (w := wr.drewN _) PP hg 1 _, by omega, by omega, (HF.out.draw _).store 1 _, HC2.out⟩
        case measure => rw [((RR.draw _).at _ (k + 1) (by omega)).place]; omega
      · have hE : Pp.close (s.data.toList.drop (a + 1)) (a + 1) = k := by
          rw [← HC.out]
          by_cases hk : k < s.size
          · refine close_stop s k hk ?_
            by_cases e : s[k].toNat = 93
            · exact e
            · exact absurd ⟨hk, e⟩ hgo
          · exact close_end s k (by omega)
        have HE : Hid (Pp.close (s.data.toList.drop (a + 1)) (a + 1) = k) := hE
        clear HC hE
        by_cases hk : k < s.size
        · have h93 : s[k].toNat = 93 := by
            by_cases e : s[k].toNat = 93
            · exact e
            · exact absurd ⟨hk, e⟩ hgo
          have d1 : decide ((k : Int) < (s.size : Int)) = true := by simp; omega
          have hi : (k : Int) < (s.size : Int) := by omega
          have d2 : ((s[k].toNat : Int) != 93) = false := by simp; omega
          have d3 : ((k : Int) == (s.size : Int)) = false := by simp; omega
          clear hgo h93
          by_cases hkb : k = a + 1
          · have d4 : ((k : Int) == ((a : Int) + 1)) = true := by simp; omega
            have HKB : Hid (k = a + 1) := hkb
            clear hkb
            go_wp2_with fail
            go_quiet (fail)
            go_wp2_with fail
            go_quiet (fail)
            go_wp2
            go_ret
            exact .inl ⟨.inr (by rw [HE.out]; exact HKB.out), rfl, ⟨k, by omega, Rd.bad (Rd.draw RR _)⟩, PR.set (B := B) (w := wr.drewN _) PP hg 2 _, Fr.store (Fr.draw HF.out _) 2 _⟩
          · have d4 : ((k : Int) == ((a : Int) + 1)) = false := by simp; omega
            have hbi : ((a : Int) + 1) ≤ (k : Int) := by omega
            go_wp2_with fail
            go_quiet (fail)
            go_wp2_with fail
            go_quiet (fail)
            go_wp2_with fail
            go_quiet (fail)
            go_wp2_with fail
            refine (rdPut_any B g (k + 1) n 3 s (s.extract (a + 1) k) v cs none 0 0 false _ (Rd.at (Rd.draw RR _) _ (k + 1) (by omega)) (PR.set (B := B) (w := wr.drewN _) PP hg 1 _) (by omega) hg (by simpa [World.setCell] using hBr)).mono ?_
            rintro e w5 ⟨v5, rfl, r5, p5, s5, h5, q5, n5⟩
            have F5 : Fr g v w w5 := (Fr.store (Fr.draw HF.out _) 1 _).next ⟨s5, h5, n5⟩
            go_wp2
            go_ret
            refine .inr ⟨by rw [HE.out]; omega, by rw [HE.out]; omega, rfl, v5, ?_, ?_, F5, fun q e => (q5 q e).imp id (fun hh => Nat.le_trans HF.out.1 (by simpa [World.setCell] using hh))⟩
            · rw [HE.out]; simpa using r5
            · rw [HE.out]; exact p5
        · have d1 : decide ((k : Int) < (s.size : Int)) = false := by simp; omega
          have d3 : ((k : Int) == (s.size : Int)) = true := by simp; omega
          clear hgo
          go_wp2_with fail
          go_quiet (fail)
          go_wp2_with fail
          go_quiet (fail)
          go_wp2
          go_ret
          exact .inl ⟨.inl (by rw [HE.out]; omega), rfl, ⟨k, by omega, Rd.bad (Rd.draw RR _)⟩, PR.set (B := B) (w := wr.drewN _) PP hg 2 _, Fr.store (Fr.draw HF.out _) 2 _⟩
end Go.Proofs.YtlpdjmjbppmibaaGreat
