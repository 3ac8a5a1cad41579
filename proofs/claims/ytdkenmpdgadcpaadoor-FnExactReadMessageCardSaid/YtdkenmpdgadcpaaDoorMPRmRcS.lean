/- The specification's reader of bytes, in one form. -/
import Derived.Test.YtdkenmpdgadcpaaDoorMPRmZay
namespace Go.Proofs.YtdkenmpdgadcpaaDoor
open Go.RowKit

/-- A number, in one form. -/
theorem spVar1 (g : Nat) (s : ByteArray) (a : Nat) (bad : Bool) (w : World) (h : Cu7 w g s a bad) (ha : a ≤ s.size) (hs : s.size ≤ 1048576) :
    Calls Tryd.prog 22 #[.pointer (some ⟨g, 0, none⟩)] w fun e w' => ∃ (n a' : Nat) (bad' : Bool), e = .returned (.int .i64 (n : Int)) ∧ w.grownBy w' (some g) ∧ Cu7 w' g s a' bad' ∧ n ≤ 1000000000 ∧ a' ≤ s.size ∧
      (bad' = false → bad = false ∧ Rc.rv s.data.toList a = some (n, a')) ∧ (bad' = true → bad = true ∨ Rc.rv s.data.toList a = none) := by
  refine (spVar7 g s a bad w h ha hs).mono ?_
  intro e w' hh
  obtain ⟨he, hm, hg⟩ := hh
  cases hr : Rc.rv s.data.toList a with
  | none =>
    rw [hr] at hm he
    cases bad with
    | false => exact ⟨0, a, true, he, hg, hm, by omega, ha, (fun e => by cases e), fun _ => .inr rfl⟩
    | true => exact ⟨0, a, true, he, hg, hm, by omega, ha, (fun e => by cases e), fun _ => .inl rfl⟩
  | some r =>
    obtain ⟨n, k⟩ := r
    rw [hr] at hm he
    obtain ⟨_, hk, _, hn⟩ := Rc.rv_bytes (by simpa using ha) hr
    cases bad with
    | false => exact ⟨n, k, false, he, hg, hm, hn, by simpa using hk, (fun e => ⟨rfl, rfl⟩), fun e => by cases e⟩
    | true => exact ⟨0, a, true, he, hg, hm, by omega, ha, (fun e => by cases e), fun _ => .inl rfl⟩
end Go.Proofs.YtdkenmpdgadcpaaDoor
