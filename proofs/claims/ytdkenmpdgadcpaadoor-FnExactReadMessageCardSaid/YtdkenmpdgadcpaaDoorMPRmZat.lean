/- What Sealed of the specification answers, at every text. A message in bytes: plain facts. -/
import Derived.Test.YtdkenmpdgadcpaaDoorMPRmZas
import Derived.Test.YtdkenmpdgadcpaaDoorMPRmMsI
import Derived.Test.YtdkenmpdgadcpaaDoorMPRmZad
import Derived.Test.YtdkenmpdgadcpaaDoorMPRmZaq
namespace Go.Proofs.YtdkenmpdgadcpaaDoor
section PartSpSeal
open Go.RowKit

set_option maxHeartbeats 400000 in
theorem specSealed_any (s : ByteArray) (w : World) (hs : s.size ≤ 1048576) :
    Calls Tryd.prog 13 #[.string s] w fun e w' => e = .returned (sealRes s) ∧ Below w.heap.size w w' := by
  by_cases h : 20000 < s.size
  · rw [sealRes_no s h]
    go_enter Tryd.func13, Tryd.ntmps13
    go_wp2
    go_ret2
    exact ⟨rfl, Below.refl _ _⟩
  · rw [sealRes_yes s (by omega)]
    obtain ⟨x, hx⟩ : ∃ x, x = Ps.sm 4294967295 s.data.toList := ⟨_, rfl⟩
    have hxl : x < 4294967296 := by rw [hx]; exact Ps.sum_lt s
    have C1 : Hid (∀ w, Calls Tryd.prog 30 #[.string s] w fun e w' => e = .returned (.int .u32 (x : Int)) ∧ w' = w) := fun w => by rw [hx]; exact specSumOf_any s w hs
    rw [← hx]
    clear hx
    have hfl : (Ps.four x).length = 4 := rfl
    go_enter Tryd.func13, Tryd.ntmps13
    go_wp2_with (first | (go_at_call 30; refine (C1.out _).mono ?_; rintro e w' ⟨rfl, rfl⟩) | (go_at_call 29; refine (four_any x _ hxl).mono ?_; rintro e w' ⟨rfl, hb⟩))
    go_ret2
    exact ⟨by rw [← Ps.app_str]; rfl, hb⟩
end PartSpSeal
section PartMtP
open Go.RowKit

theorem hidOfT {p : Prop} (h : p) : Hid p := h
theorem cell_upT {W W' : World} {p : Addr} {u : Value} (hb : Below W.heap.size W W') (h : W.cell? p = some u) : W'.cell? p = some u := (hb.cell (World.block_lt_of_cell? W _ h)).trans h
namespace Ms
/-- What stands ahead of the body. -/
def head (m : Ms) : List UInt8 := [UInt8.ofNat m.kind.toNat, UInt8.ofNat m.worker.toNat] ++ Pl.vb 8 m.task.toNat ++ Pl.vb 8 m.try_.toNat
/-- The bytes of a message, not sealed. -/
def raw (m : Ms) : List UInt8 := m.head ++ m.body.data.toList
/-- What MessageText answers. -/
def text? (m : Ms) : Value := if m.ok = true then sealRes ⟨m.raw.toArray⟩ else .tuple #[.string ⟨#[]⟩, .bool false]
theorem ok_facts {m : Ms} (h : m.ok = true) : (1 ≤ m.kind ∧ m.kind ≤ 4) ∧ (1 ≤ m.worker ∧ m.worker ≤ 3) ∧ (0 ≤ m.task ∧ m.task ≤ 20) ∧ (0 ≤ m.try_ ∧ m.try_ ≤ 1000000000) ∧ m.body.size ≤ 15000 ∧ (m.kind = 2 ∨ m.kind = 3 ∨ m.body.size = 0) := by
  unfold ok at h
  simp only [Bool.and_eq_true, Bool.or_eq_true, decide_eq_true_eq] at h
  exact h
theorem raw_len {m : Ms} (h : m.ok = true) : m.raw.length ≤ 15020 := by
  obtain ⟨-, -, -, -, h5, -⟩ := ok_facts h
  have h1 := l01_bytes m.task.toNat
  have h2 := l01_bytes m.try_.toNat
  have h3 : m.body.data.toList.length = m.body.size := by simp
  unfold raw head
  simp only [List.length_append, List.length_cons, List.length_nil, h3]
  omega
/-- What MessageText answers at a right message, told. -/
theorem text_yes {m : Ms} (h : m.ok = true) : ∃ Y : ByteArray, m.text? = .tuple #[.string Y, .bool true] ∧ sealRes ⟨m.raw.toArray⟩ = .tuple #[.string Y, .bool true] := by
  have hl := raw_len h
  have e : sealRes ⟨m.raw.toArray⟩ = _ := sealRes_yes ⟨m.raw.toArray⟩ (by show m.raw.toArray.size ≤ 20000; simp; omega)
  exact ⟨_, by unfold text?; rw [if_pos h]; exact e, e⟩
theorem text_no {m : Ms} (h : m.ok = false) : m.text? = .tuple #[.string ⟨#[]⟩, .bool false] := by
  unfold text?
  rw [if_neg (by rw [h]; decide)]
end Ms
theorem two_str (W : World) (b k n : Nat) (h0 : W.cell? ⟨b, 0, none⟩ = some (.int .u8 (k : Int))) (h1 : W.cell? ⟨b, 1, none⟩ = some (.int .u8 (n : Int))) :
    (convert 36 9 (.slice (some ⟨b, 0, none⟩) 2 2)).run Tryd.prog W = .ok (.string ⟨#[UInt8.ofNat k, UInt8.ofNat n]⟩) W := by
  have e : strOfNums [(k : Int), (n : Int)] = ⟨#[UInt8.ofNat k, UInt8.ofNat n]⟩ := by
    unfold strOfNums
    simp
  rw [← e]
  refine run_convert_bytes_arg (P := Tryd.prog) W 36 5 Tryd.underlying36 Tryd.underlying5 b 0 2 2 [(k : Int), (n : Int)] rfl ?_ 9 Tryd.underlying9
  intro j hj
  rcases j with _ | _ | j
  · exact h0
  · exact h1
  · omega
section
variable {P : Program} {md : Region.Mode} {ops : Array Oper} {Q : Exit → Act → World → Prop} {S S' : World → Prop}
/-- What holds under more holds under less. -/
theorem wpAnyH_less (hS : ∀ W, S' W → S W) : ∀ (n : Nat) (listed : Array Bool) (a : Act) (w : World), wpAnyH P md ops Q S' n listed a w → wpAnyH P md ops Q S n listed a w
  | 0, _, _, _, h => h
  | n + 1, _, _, _, h => ⟨h.1, fun i hi => wpOp_mono (fun a' w' h' => ⟨hS w' h'.1, wpAnyH_less hS n _ a' w' h'.2⟩) (h.2 i hi)⟩
end
end PartMtP
end Go.Proofs.YtdkenmpdgadcpaaDoor
