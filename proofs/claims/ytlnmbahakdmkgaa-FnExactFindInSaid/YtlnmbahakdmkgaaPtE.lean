/- When a pattern is right: one piece. -/
import Derived.Test.YtlnmbahakdmkgaaPtD
namespace Go.Proofs.Ytlnmbahakdmkgaa
open Go.RowKit

/-- A box of a piece. -/
def Bx (w : World) (g : Nat) (op : Int) (t : ByteArray) (v : Value) : Prop := w.cell? ⟨g, 0, none⟩ = some (.int .i64 op) ∧ w.cell? ⟨g, 1, none⟩ = some (.string t) ∧ w.cell? ⟨g, 2, none⟩ = some v
theorem Bx.keep {w w' : World} {g : Nat} {op : Int} {t : ByteArray} {v : Value} (h : Bx w g op t v) (hb : Below w.heap.size w w') : Bx w' g op t v := by
  obtain ⟨h1, h2, h3⟩ := h
  have hl : g < w.heap.size := World.block_lt_of_cell? w _ h1
  exact ⟨(hb.cell hl).trans h1, (hb.cell hl).trans h2, (hb.cell hl).trans h3⟩

set_option maxHeartbeats 1600000 in
theorem pieceOk_any (kv : Value) (p : Pi) (i : Nat) (w : World) (h : KidsAt w kv p.kids) (hl : p.kids.length ≤ 1048576) :
    Calls Try.prog 46 #[.agg #[.int .i64 p.op, .string p.text, kv], .int .i64 (i : Int)] w fun e w' => e = .returned (.bool (Pk.piece i p)) ∧ Below w.heap.size w w' := by
  obtain ⟨op, t, ks⟩ := p
  simp only at h hl ⊢
  obtain ⟨ka, kc, rfl, f⟩ := h
  obtain ⟨m, hm⟩ : ∃ m, m = Pk.kw op := ⟨_, rfl⟩
  obtain ⟨tb, htb⟩ : ∃ tb, tb = Pk.tx op t.size := ⟨_, rfl⟩
  have hm2 : m ≤ 2 := by rw [hm]; unfold Pk.kw; split <;> (try split) <;> omega
  have CK : Hid (∀ w' : World, Calls Try.prog 64 #[.int .i64 op] w' fun e w'' => e = .returned (.int .i64 (m : Int)) ∧ w'' = w') := fun w' => by rw [hm]; exact kidsWanted_any op w'
  have CT : Hid (∀ w' : World, Calls Try.prog 65 #[.agg #[.int .i64 op, .string t, .slice ka ks.length kc]] w' fun e w'' => e = .returned (.bool tb) ∧ Below w'.heap.size w' w'') := fun w' => by rw [htb]; exact textOk_any op t ka ks.length kc w'
  have HB : Hid (∀ o : Obj, Below w.heap.size w (w.alloc o)) := fun o => (Below.refl _ _).alloc (Nat.le_refl _) _
  by_cases hop : 1 ≤ op ∧ op ≤ 12
  · have d1 : decide (op < 1) = false := by simp; omega
    have d2 : decide (12 < op) = false := by simp; omega
    have HP : Hid (Pk.piece i ⟨op, t, ks⟩ = (Pk.ahead i ks && (decide (ks.length = m) && tb))) := by show _ = _; rw [hm, htb]; simp [Pk.piece, hop]
    clear hm htb
    have hbw : w.heap.size < w.heap.size + 1 := by omega
    have HF : Hid (0 < ks.length → ∃ b o, ka = some ⟨b, o, none⟩ ∧ b < w.heap.size ∧ ∀ j, j < ks.length → w.cell? ⟨b, o + j, none⟩ = some (.int .i64 (ks.getD j 0))) := f
    clear f
    go_enter Try.func46, Try.ntmps46
    go_wp2_with fail
    go_loop [18] (fun j => ∃ k : Nat, j = .int .i64 (k : Int) ∧ k ≤ ks.length ∧ Hid (Pk.ahead i (ks.take k) = true)) (fun j => ks.length - (intOf j).toNat)
    case atStart => exact ⟨0, rfl, by omega, rfl⟩
    case round =>
      obtain ⟨k, rfl, hk, HA⟩ := hrel
      by_cases hlt : k < ks.length
      · obtain ⟨b, o, rfl, hb, hc⟩ := HF.out (by omega)
        have c1 := hc k hlt
        clear hc
        have HA2 := Pk.ahead_take i ks k hlt
        have HA3 : Hid (¬ (0 ≤ ks.getD k 0 ∧ ks.getD k 0 < (i : Int)) → Pk.ahead i ks = false) := fun hh => Pk.ahead_false i ks k hlt hh
        rw [HA.out, Bool.true_and] at HA2
        have HA4 : Hid (Pk.ahead i (ks.take (k + 1)) = decide (0 ≤ ks.getD k 0 ∧ ks.getD k 0 < (i : Int))) := HA2
        obtain ⟨x, hx⟩ : ∃ x, x = ks.getD k 0 := ⟨_, rfl⟩
        rw [← hx] at c1 HA3 HA4
        clear hx HA2
        have i1 : (k : Int) < (ks.length : Int) := by omega
        by_cases hx0 : x < 0
        · have dx : decide (x < 0) = true := by simpa using hx0
          have e : Hid (Pk.piece i ⟨op, t, ks⟩ = false) := by
            show _ = _
            rw [HP.out, HA3.out (by omega)]; rfl
          go_wp2
          go_ret
          rw [e.out]
          exact ⟨rfl, HB.out _⟩
        · have dx : decide (x < 0) = false := by simpa using hx0
          by_cases hxi : (i : Int) ≤ x
          · have dy : decide ((i : Int) ≤ x) = true := by simpa using hxi
            have e : Hid (Pk.piece i ⟨op, t, ks⟩ = false) := by
              show _ = _
              rw [HP.out, HA3.out (by omega)]; rfl
            go_wp2
            go_ret
            rw [e.out]
            exact ⟨rfl, HB.out _⟩
          · have dy : decide ((i : Int) ≤ x) = false := by simpa using hxi
            go_wp2
            go_round
            case rel => exact ⟨k + 1, by go_num, by omega, by show _ = _; rw [HA4.out]; simp; omega⟩
            case measure => simp [intOf]; omega
      · have HQ : Hid (Pk.piece i ⟨op, t, ks⟩ = (decide (ks.length = m) && tb)) := by
          show _ = _
          have := HA.out
          rw [List.take_of_length_le (by omega)] at this
          rw [HP.out, this]; rfl
        have d9 : decide ((k : Int) < (ks.length : Int)) = false := by simp; omega
        by_cases hkw : ks.length = m
        · subst hkw
          have HR : Hid (Pk.piece i ⟨op, t, ks⟩ = tb) := by show _ = _; rw [HQ.out]; simp
          go_wp2_with fail
          have HCL : Hid (∀ (w' w'' : World), (w'.cell? ⟨w.heap.size, 0, none⟩ = some (.int .i64 op) ∧ w'.cell? ⟨w.heap.size, 1, none⟩ = some (.string t) ∧ w'.cell? ⟨w.heap.size, 2, none⟩ = some (.slice ka ks.length kc)) → Below w'.heap.size w' w'' → (w''.cell? ⟨w.heap.size, 0, none⟩ = some (.int .i64 op) ∧ w''.cell? ⟨w.heap.size, 1, none⟩ = some (.string t) ∧ w''.cell? ⟨w.heap.size, 2, none⟩ = some (.slice ka ks.length kc))) :=
            fun w' w'' h hb => Bx.keep h hb
          clear HF HP HQ HA
          go_region_held3 (fun w' => w'.cell? ⟨w.heap.size, 0, none⟩ = some (.int .i64 op) ∧ w'.cell? ⟨w.heap.size, 1, none⟩ = some (.string t) ∧ w'.cell? ⟨w.heap.size, 2, none⟩ = some (.slice ka ks.length kc)) (first | (refine HCL.out _ _ ?_ hb1; go_keep) | go_keep) ((first | (go_at_call 64; refine (CK.out _).mono ?_; rintro e w1 ⟨rfl, rfl⟩) | (go_at_call 65; refine (CT.out _).mono ?_; rintro e w1 ⟨rfl, hb1⟩)))
          go_wp2
          go_ret
          rw [HR.out]
          exact ⟨rfl, (HB.out _).drew.trans (hb1.mono (by simp))⟩
        · have dk : ((ks.length : Int) == (m : Int)) = false := by simp; omega
          have HR : Hid (Pk.piece i ⟨op, t, ks⟩ = false) := by show _ = _; rw [HQ.out]; simp [hkw]
          go_wp2_with fail
          clear HF HP HQ HA hkw CT
          go_quiet ((go_at_call 64; refine Calls.quiet_of_same (CK.out _)))
          go_wp2
          go_ret
          rw [HR.out]
          exact ⟨rfl, below_drewN (HB.out _) _⟩
  · have e : Pk.piece i ⟨op, t, ks⟩ = false := by
      simp only [Pk.piece, hop, decide_false, Bool.false_and]
    rw [e]
    by_cases h1 : op < 1
    · have d1 : decide (op < 1) = true := by simpa using h1
      go_enter Try.func46, Try.ntmps46
      go_wp2
      go_ret
      exact ⟨rfl, HB.out _⟩
    · have d1 : decide (op < 1) = false := by simpa using h1
      have d2 : decide (12 < op) = true := by simp; omega
      go_enter Try.func46, Try.ntmps46
      go_wp2
      go_ret
      exact ⟨rfl, HB.out _⟩
#print axioms pieceOk_any
end Go.Proofs.Ytlnmbahakdmkgaa
