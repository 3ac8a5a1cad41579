/- The specification of CodeOk. Plain facts, without the program: what a number read at a place of a text is, byte by byte. What spec.l01Var and both VarText answer, at every number. -/
import Derived.Test.YtmofljfffcnlbaaMPSxCdB
import Derived.Test.YtmofljfffcnlbaaMPSxZag
namespace Go.Proofs.Ytmofljfffcnlbaa
section PartCdH
open Go.RowKit

namespace Cd
end Cd

end PartCdH
section PartPlainB
namespace Pl

/-- pre: the bytes read so far; the third: those that follow; at most f more are read. The number, and how many bytes. -/
def rvF : Nat → List UInt8 → List UInt8 → Option (Nat × Nat)
  | 0, _, _ => none
  | _ + 1, _, [] => none
  | f + 1, pre, b :: r => if b.toNat < 128 then (if (b.toNat = 0 ∧ 0 < pre.length) ∨ 1000000000 < val (pre ++ [b]) then none else some (val (pre ++ [b]), pre.length + 1)) else rvF f (pre ++ [b]) r

theorem rvF_nil (f : Nat) (pre : List UInt8) : rvF f pre [] = none := by cases f <;> rfl
theorem rvF_on (f : Nat) (pre : List UInt8) (b : UInt8) (r : List UInt8) (h : 128 ≤ b.toNat) : rvF (f + 1) pre (b :: r) = rvF f (pre ++ [b]) r := by
  rw [rvF, if_neg (by omega)]
theorem rvF_bad (f : Nat) (pre : List UInt8) (b : UInt8) (r : List UInt8) (h : b.toNat < 128) (h2 : (b.toNat = 0 ∧ 0 < pre.length) ∨ 1000000000 < val (pre ++ [b])) : rvF (f + 1) pre (b :: r) = none := by
  rw [rvF, if_pos h, if_pos h2]
theorem rvF_end (f : Nat) (pre : List UInt8) (b : UInt8) (r : List UInt8) (h : b.toNat < 128) (h2 : ¬ ((b.toNat = 0 ∧ 0 < pre.length) ∨ 1000000000 < val (pre ++ [b]))) : rvF (f + 1) pre (b :: r) = some (val (pre ++ [b]), pre.length + 1) := by
  rw [rvF, if_pos h, if_neg h2]

/-- Of what is read: the number is at most MaxNumber, and the bytes are there. -/
theorem rvF_some (f : Nat) (pre r : List UInt8) (n k : Nat) (h : rvF f pre r = some (n, k)) : n ≤ 1000000000 ∧ k ≤ pre.length + r.length := by
  induction f generalizing pre r with
  | zero => simp [rvF] at h
  | succ f ih =>
    cases r with
    | nil => simp [rvF] at h
    | cons b r =>
      by_cases hb : b.toNat < 128
      · by_cases h2 : (b.toNat = 0 ∧ 0 < pre.length) ∨ 1000000000 < val (pre ++ [b])
        · rw [rvF_bad f pre b r hb h2] at h; cases h
        · rw [rvF_end f pre b r hb h2] at h
          simp only [Option.some.injEq, Prod.mk.injEq] at h
          obtain ⟨rfl, rfl⟩ := h
          simp; omega
      · rw [rvF_on f pre b r (by omega)] at h
        have := ih _ _ h
        simp at this ⊢; omega

theorem drop_cons (l : List UInt8) (k : Nat) (h : k < l.length) : l.drop k = l[k] :: l.drop (k + 1) := by
  rw [List.drop_eq_getElem_cons h]

theorem Goes.snoc {l : List UInt8} {b : UInt8} (h : Goes l) (hb : 128 ≤ b.toNat) : Goes (l ++ [b]) := by
  intro c hc
  simp at hc
  rcases hc with hc | rfl
  · exact h c hc
  · exact hb

theorem mul_bound (c sc : Nat) (hc : c < 128) (hs : sc ≤ 268435456) : c * sc ≤ 34359738368 := by
  have := Nat.mul_le_mul (show c ≤ 128 by omega) hs
  omega
theorem mul_int (b c : Nat) : ((b % 128 * c : Nat) : Int) = (b : Int) % 128 * (c : Int) := by rw [Int.natCast_mul, Int.natCast_emod]; rfl
end Pl
end PartPlainB
section PartVrA
open Go.RowKit

theorem vb_round (n f m : Nat) (xs : List UInt8) (hf : m < 128 ^ (f + 1)) (he : xs ++ Pl.vb f m = Pl.vb 8 n) (h : 127 < m) :
    ∃ g, f = g + 1 ∧ m / 128 < 128 ^ (g + 1) ∧ (xs ++ [Pl.hb m]) ++ Pl.vb g (m / 128) = Pl.vb 8 n := by
  cases f with
  | zero => simp at hf; omega
  | succ g =>
    refine ⟨g, rfl, ?_, ?_⟩
    · rw [Nat.pow_succ] at hf; omega
    · rw [Pl.vb_more g m h] at he; simpa using he

set_option maxHeartbeats 400000 in
theorem l01Var_any (n : Nat) (w : World) (hn : n < 9223372036854775808) :
    Calls Try.prog 42 #[.int .i64 n] w fun e w' => e = .returned (.string ⟨(Pl.vb 8 n).toArray⟩) ∧ Below w.heap.size w w' := by
  go_enter Try.func42, Try.ntmps42
  go_wp2
  go_loopw [0, 3] (fun i v wr => ∃ (m f : Nat) (xs : List UInt8), i = .int .i64 m ∧ m < 9223372036854775808 ∧ Row w.heap.size wr v xs ∧ Below w.heap.size w wr ∧ Hid (m < 128 ^ (f + 1)) ∧ Hid (xs.length + f = 8) ∧ Hid (xs ++ Pl.vb f m = Pl.vb 8 n)) (fun i _ _ => (intOf i).toNat)
  case atStart => exact ⟨n, 8, [], rfl, hn, Row.made w #[] 0 (Nat.le_refl _) (by decide) rfl, (Below.refl _ _).alloc (Nat.le_refl _) _, hn, rfl, rfl⟩
  case round =>
    obtain ⟨m, f, xs, rfl, hm, hrow, hbel, H1, H2, H3⟩ := hrel
    have hsz := hbel.size
    have hxl : xs.length ≤ 8 := by have := H2.out; omega
    by_cases hlt : 127 < m
    · obtain ⟨g, hg, hq, hv⟩ := vb_round n f m xs H1.out H3.out hlt
      have HG : Hid (f = g + 1) := hg
      have HQ : Hid (m / 128 < 128 ^ (g + 1)) := hq
      have HV : Hid ((xs ++ [Pl.hb m]) ++ Pl.vb g (m / 128) = Pl.vb 8 n) := hv
      clear hg hq hv
      go_wp2_with (at_builtin; go_must (refine hrow.push rfl (.tmp 7) (.tmp 12) rfl rfl _ (Pl.hb m) ?hz rfl ?hl ?hb ?_))
      case hz => have := Pl.hb_nat m; omega
      case hl => omega
      case hb => omega
      · intro v' w1 hrow' hbel'
        go_wp2
        go_roundw
        case rel => exact ⟨m / 128, g, _, by go_num, by omega, hrow', hbel.trans hbel', HQ.out, by have h1 := H2.out; have h2 := HG.out; show _ = 8; simp; omega, HV.out⟩
        case measure => simp [intOf]; omega
    · go_wp2_with (at_builtin; go_must (refine hrow.push rfl (.tmp 16) (.tmp 19) rfl rfl _ (UInt8.ofNat m) ?hz2 rfl ?hl2 ?hb2 ?_))
      case hz2 => have := Pl.small m (by omega); omega
      case hl2 => omega
      case hb2 => omega
      · intro v' w1 hrow' hbel'
        have hst := hrow'.str
        go_wp2
        go_ret
        refine ⟨?_, hbel.trans hbel'⟩
        have h3 := H3.out
        rw [Pl.vb_last f m hlt] at h3
        rw [h3]
        rfl

theorem l01Var_int (z : Int) (w : World) (h0 : 0 ≤ z) (h1 : z < 9223372036854775808) :
    Calls Try.prog 42 #[.int .i64 z] w fun e w' => e = .returned (.string ⟨(Pl.vb 8 z.toNat).toArray⟩) ∧ Below w.heap.size w w' := by
  obtain ⟨n, rfl⟩ := Int.eq_ofNat_of_zero_le h0
  rw [Int.toNat_natCast]
  exact l01Var_any n w (by omega)

set_option maxHeartbeats 400000 in
theorem l01In_yes (x a b : Int) (w : World) (h1 : a ≤ x) (h2 : x ≤ b) :
    Calls Try.prog 48 #[.int .i64 x, .int .i64 a, .int .i64 b] w fun e w' => e = .returned (.bool true) ∧ w' = w := by
  have d2 : decide (x ≤ b) = true := by simpa using h2
  go_enter Try.func48, Try.ntmps48
  go_wp2
  go_ret
  exact ⟨rfl, rfl⟩
set_option maxHeartbeats 400000 in
theorem l01In_no (x a b : Int) (w : World) (h : x < a ∨ b < x) :
    Calls Try.prog 48 #[.int .i64 x, .int .i64 a, .int .i64 b] w fun e w' => e = .returned (.bool false) ∧ w' = w := by
  by_cases h1 : x < a
  · have d1 : decide (a ≤ x) = false := by simpa using h1
    clear h
    go_enter Try.func48, Try.ntmps48
    go_wp2
    go_ret
    exact ⟨rfl, rfl⟩
  · have h2 : b < x := by omega
    have d2 : decide (x ≤ b) = false := by simpa using h2
    clear h
    go_enter Try.func48, Try.ntmps48
    go_wp2
    go_ret
    exact ⟨rfl, rfl⟩

/-- What VarText answers at n. -/
def varRes (n : Int) : Value := if 0 ≤ n ∧ n ≤ 1000000000 then .tuple #[.string ⟨(Pl.vb 8 n.toNat).toArray⟩, .bool true] else .tuple #[.string ⟨#[]⟩, .bool false]
theorem varRes_yes (n : Nat) (h : n ≤ 1000000000) : varRes n = .tuple #[.string ⟨(Pl.vb 8 n).toArray⟩, .bool true] := by
  unfold varRes; rw [if_pos ⟨by omega, by omega⟩]; simp
theorem varRes_no (n : Int) (h : n < 0 ∨ 1000000000 < n) : varRes n = .tuple #[.string ⟨#[]⟩, .bool false] := by
  unfold varRes; rw [if_neg (by omega)]

set_option maxHeartbeats 400000 in
theorem implVarText_any (n : Int) (w : World) :
    Calls Try.prog 37 #[.int .i64 n] w fun e w' => e = .returned (varRes n) ∧ Below w.heap.size w w' := by
  by_cases h0 : n < 0
  · rw [varRes_no n (.inl h0)]
    go_enter Try.func37, Try.ntmps37
    go_wp2
    go_ret2
    exact ⟨rfl, Below.refl _ _⟩
  · by_cases h1 : 1000000000 < n
    · rw [varRes_no n (.inr h1)]
      go_enter Try.func37, Try.ntmps37
      go_wp2
      go_ret2
      exact ⟨rfl, Below.refl _ _⟩
    · obtain ⟨k, rfl⟩ := Int.eq_ofNat_of_zero_le (by omega : 0 ≤ n)
      rw [varRes_yes k (by omega)]
      go_enter Try.func37, Try.ntmps37
      go_wp2
      go_loopw [0, 4] (fun i v wr => ∃ (m f : Nat) (xs : List UInt8), i = .int .i64 m ∧ m < 9223372036854775808 ∧ Row w.heap.size wr v xs ∧ Below w.heap.size w wr ∧ Hid (m < 128 ^ (f + 1)) ∧ Hid (xs.length + f = 8) ∧ Hid (xs ++ Pl.vb f m = Pl.vb 8 k)) (fun i _ _ => (intOf i).toNat)
      case atStart => exact ⟨k, 8, [], rfl, by omega, Row.nil _ _, Below.refl _ _, show k < 128 ^ 9 by omega, rfl, rfl⟩
      case round =>
        obtain ⟨m, f, xs, rfl, hm, hrow, hbel, H1, H2, H3⟩ := hrel
        have hsz := hbel.size
        have hxl : xs.length ≤ 8 := by have := H2.out; omega
        by_cases hlt : 127 < m
        · obtain ⟨g, hg, hq, hv⟩ := vb_round k f m xs H1.out H3.out hlt
          have HG : Hid (f = g + 1) := hg
          have HQ : Hid (m / 128 < 128 ^ (g + 1)) := hq
          have HV : Hid ((xs ++ [Pl.hb m]) ++ Pl.vb g (m / 128) = Pl.vb 8 k) := hv
          clear hg hq hv
          go_wp2_with (at_builtin; go_must (refine hrow.push rfl (.tmp 13) (.tmp 18) rfl rfl _ (Pl.hb m) ?hz rfl ?hl ?hb ?_))
          case hz => have := Pl.hb_nat m; omega
          case hl => omega
          case hb => omega
          · intro v' w1 hrow' hbel'
            go_wp2
            go_roundw
            case rel => exact ⟨m / 128, g, _, by go_num, by omega, hrow', hbel.trans hbel', HQ.out, by have h1 := H2.out; have h2 := HG.out; show _ = 8; simp; omega, HV.out⟩
            case measure => simp [intOf]; omega
        · go_wp2_with (at_builtin; go_must (refine hrow.push rfl (.tmp 22) (.tmp 25) rfl rfl _ (UInt8.ofNat m) ?hz2 rfl ?hl2 ?hb2 ?_))
          case hz2 => have := Pl.small m (by omega); omega
          case hl2 => omega
          case hb2 => omega
          · intro v' w1 hrow' hbel'
            have hst := hrow'.str
            go_wp2
            go_ret2
            refine ⟨?_, hbel.trans hbel'⟩
            have h3 := H3.out
            rw [Pl.vb_last f m hlt] at h3
            rw [h3]
            rfl

end PartVrA
end Go.Proofs.Ytmofljfffcnlbaa
