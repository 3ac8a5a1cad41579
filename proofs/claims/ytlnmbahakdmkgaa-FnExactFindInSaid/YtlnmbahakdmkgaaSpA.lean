/- Where a piece may end, by the specification: whether a piece takes a byte. -/
import Derived.Test.YtlnmbahakdmkgaaPEn
import Derived.Test.YtlnmbahakdmkgaaPtB
namespace Go.Proofs.Ytlnmbahakdmkgaa
open Go.RowKit

theorem mem_take (t : ByteArray) (k : Nat) (b : UInt8) (h : k < t.size) : (b ∈ t.data.toList.take (k + 1)) ↔ (b ∈ t.data.toList.take k ∨ t[k].toNat = b.toNat) := by
  rw [List.take_succ_eq_append_getElem (by simpa using h), List.mem_append, List.mem_singleton]
  refine or_congr Iff.rfl ?_
  constructor
  · intro e; rw [e]; rfl
  · intro e; exact (UInt8.toNat_inj.1 e).symm

set_option maxHeartbeats 1000000 in
set_option maxRecDepth 100000 in
theorem spByte_any (p : Pi) (b : UInt8) (ka : Option Addr) (kl kc : Nat) (w : World) (hop : p.op = 1 ∨ p.op = 2 ∨ p.op = 3 ∨ p.op = 4) (ht : p.text.size ≤ 1048576) :
    Calls Try.prog 62 #[.agg #[.int .i64 p.op, .string p.text, .slice ka kl kc], .int .u8 (b.toNat : Int)] w fun e w' => e = .returned (.bool (En.takes p b)) ∧ Below w.heap.size w w' := by
  obtain ⟨op, t, ks⟩ := p
  simp only at hop ht ⊢
  have h256b : b.toNat < 256 := b.toNat_lt
  have HB : Hid (∀ o : Obj, Below w.heap.size w (w.alloc o)) := fun o => (Below.refl _ _).alloc (Nat.le_refl _) _
  have HT : Hid (∀ f : Bool, (f = true ↔ b ∈ t.data.toList) → (op = 1 → En.takes ⟨op, t, ks⟩ b = f) ∧ (op = 2 → En.takes ⟨op, t, ks⟩ b = true) ∧ (op = 3 → En.takes ⟨op, t, ks⟩ b = f) ∧ (op = 4 → En.takes ⟨op, t, ks⟩ b = !f)) := by
    intro f hf
    have e : f = decide (b ∈ t.data.toList) := by
      cases f with
      | true => exact (decide_eq_true (hf.1 rfl)).symm
      | false => exact (decide_eq_false (fun h => by have := hf.2 h; cases this)).symm
    rw [e]
    refine ⟨fun h => ?_, fun h => ?_, fun h => ?_, fun h => ?_⟩ <;> subst h <;> simp [En.takes]
  go_enter Try.func62, Try.ntmps62
  go_wp2_with fail
  go_loop [5, 6] (fun f i => ∃ (k : Nat) (fb : Bool), i = .int .i64 (k : Int) ∧ f = .bool fb ∧ k ≤ t.size ∧ Hid (fb = true ↔ b ∈ t.data.toList.take k)) (fun _ i => t.size - (intOf i).toNat)
  case atStart => exact ⟨0, false, rfl, rfl, by omega, by show _ ↔ _; simp⟩
  case round =>
    obtain ⟨k, fb, rfl, rfl, hk, HF⟩ := hrel
    by_cases hlt : k < t.size
    · have h256 : t[k].toNat < 256 := t[k].toNat_lt
      have hi : (k : Int) < (t.size : Int) := by omega
      have HM := mem_take t k b hlt
      cases fb with
      | true =>
        have HN : Hid ((true = true) ↔ b ∈ t.data.toList.take (k + 1)) := by
          show _ ↔ _
          rw [HM]
          exact ⟨fun _ => .inl (HF.out.1 rfl), fun _ => rfl⟩
        clear HM
        go_wp2
        go_round
        case rel => exact ⟨k + 1, true, by go_num, rfl, by omega, HN.out⟩
        case measure => simp [intOf]; omega
      | false =>
        have HN : Hid (((((t[k].toNat : Int) == (b.toNat : Int))) = true) ↔ b ∈ t.data.toList.take (k + 1)) := by
          show _ ↔ _
          rw [HM]
          constructor
          · intro h; right; have := beq_iff_eq.1 h; omega
          · intro h
            rcases h with h | h
            · have := HF.out.2 h; cases this
            · rw [h]; exact beq_self_eq_true _
        clear HM
        go_wp2
        go_round
        case rel => exact ⟨k + 1, _, by go_num, rfl, by omega, HN.out⟩
        case measure => simp [intOf]; omega
    · have HE : Hid ((op = 1 → En.takes ⟨op, t, ks⟩ b = fb) ∧ (op = 2 → En.takes ⟨op, t, ks⟩ b = true) ∧ (op = 3 → En.takes ⟨op, t, ks⟩ b = fb) ∧ (op = 4 → En.takes ⟨op, t, ks⟩ b = !fb)) := by
        refine HT.out fb ?_
        have := HF.out
        rwa [List.take_of_length_le (by simp; omega)] at this
      clear HF HT
      rcases hop with rfl | rfl | rfl | rfl
      · have E1 : Hid (En.takes ⟨1, t, ks⟩ b = (fb)) := HE.out.1 rfl
        clear HE
        go_wp2
        go_ret
        exact ⟨by rw [E1.out]; rfl, HB.out _⟩
      · have E1 : Hid (En.takes ⟨2, t, ks⟩ b = (true)) := HE.out.2.1 rfl
        clear HE
        go_wp2
        go_ret
        exact ⟨by rw [E1.out]; rfl, HB.out _⟩
      · have E1 : Hid (En.takes ⟨3, t, ks⟩ b = (fb)) := HE.out.2.2.1 rfl
        clear HE
        go_wp2
        go_ret
        exact ⟨by rw [E1.out]; rfl, HB.out _⟩
      · have E1 : Hid (En.takes ⟨4, t, ks⟩ b = (!fb)) := HE.out.2.2.2 rfl
        clear HE
        go_wp2
        go_ret
        exact ⟨by rw [E1.out]; rfl, HB.out _⟩
#print axioms spByte_any
end Go.Proofs.Ytlnmbahakdmkgaa
