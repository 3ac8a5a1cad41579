/- Plain facts, without the program: a sealed text with one byte turned is not as sealed. -/
import Derived.Test.YtbfnpdklnbpgjaaDoorPlainS
namespace Go.Proofs.YtbfnpdklnbpgjaaDoor
namespace Ps

/-- A text as sealed. -/
def sld (l : List UInt8) : List UInt8 := l ++ four (sm 4294967295 l)
theorem sld_len (l : List UInt8) : (sld l).length = l.length + 4 := by simp [sld, four]
theorem sld_take (l : List UInt8) : (sld l).take l.length = l := by simp [sld]
theorem sld_drop (l : List UInt8) : (sld l).drop l.length = four (sm 4294967295 l) := by simp [sld]

theorem set_mid (l : List UInt8) (i : Nat) (c : UInt8) (h : i < l.length) : l = l.take i ++ l[i] :: l.drop (i + 1) ∧ l.set i c = l.take i ++ c :: l.drop (i + 1) := by
  refine ⟨?_, ?_⟩
  · rw [List.getElem_cons_drop, List.take_append_drop]
  · rw [List.set_eq_take_append_cons_drop, if_pos h]
theorem sm_set (s : Nat) (l : List UInt8) (i : Nat) (c : UInt8) (h : i < l.length) (hs : s < 4294967296) (hc : c ≠ l[i]) : sm s (l.set i c) ≠ sm s l := by
  obtain ⟨e1, e2⟩ := set_mid l i c h
  intro e
  rw [e2] at e
  conv at e => rhs; rw [e1]
  exact sm_turned s (l.take i) (l.drop (i + 1)) c l[i] hs hc e
theorem set_ne (l : List UInt8) (i : Nat) (c : UInt8) (h : i < l.length) (hc : c ≠ l[i]) : l.set i c ≠ l := by
  intro e
  have h2 : (l.set i c)[i]'(by simpa using h) = l[i] := by simp only [e]
  rw [List.getElem_set_self] at h2
  exact hc h2

/-- One byte turned: no longer as sealed. -/
theorem turned (l : List UInt8) (i : Nat) (c : UInt8) (h : i < (sld l).length) (hc : c ≠ (sld l)[i]) :
    ((sld l).set i c).drop l.length ≠ four (sm 4294967295 (((sld l).set i c).take l.length)) := by
  have hb : (4294967295 : Nat) < 4294967296 := by decide
  have hsm (m : List UInt8) := sm_lt 4294967295 m hb
  have hl := sld_len l
  by_cases hi : i < l.length
  · have e0 : (sld l)[i] = l[i] := by simp [sld, hi]
    rw [e0] at hc
    have e1 : (sld l).set i c = l.set i c ++ four (sm 4294967295 l) := by
      unfold sld
      rw [List.set_append_left _ _ hi]
    rw [e1]
    have e2 : (l.set i c ++ four (sm 4294967295 l)).drop l.length = four (sm 4294967295 l) := by
      have : l.length = (l.set i c).length := by simp
      rw [this, List.drop_left]
    have e3 : (l.set i c ++ four (sm 4294967295 l)).take l.length = l.set i c := by
      have : l.length = (l.set i c).length := by simp
      rw [this, List.take_left]
    rw [e2, e3]
    intro e
    exact sm_set 4294967295 l i c hi hb hc (four_inj _ _ (hsm _) (hsm _) e).symm
  · have e0 : (sld l)[i] = (four (sm 4294967295 l))[i - l.length]'(by simp [four]; omega) := by
      simp only [sld]
      rw [List.getElem_append_right (by omega)]
    rw [e0] at hc
    have e1 : (sld l).set i c = l ++ (four (sm 4294967295 l)).set (i - l.length) c := by
      unfold sld
      rw [List.set_append_right _ _ (by omega)]
    rw [e1, List.drop_left, List.take_left]
    exact set_ne _ _ _ (by simp [four]; omega) hc

/-- A byte that is turned by something of 1 .. 255 is another. -/
theorem xor_ne (a : UInt8) (y : Nat) (h0 : 0 < y) (h1 : y < 256) : a.toNat ^^^ y < 256 ∧ UInt8.ofNat (a.toNat ^^^ y) ≠ a := by
  have ha := a.toNat_lt
  have hx : a.toNat ^^^ y < 256 := Nat.xor_lt_two_pow (n := 8) ha h1
  refine ⟨hx, fun e => ?_⟩
  have e2 := congrArg UInt8.toNat e
  rw [UInt8.toNat_ofNat', Nat.mod_eq_of_lt hx] at e2
  have e3 := congrArg (a.toNat ^^^ ·) e2
  simp only [← Nat.xor_assoc, Nat.xor_self, Nat.zero_xor] at e3
  omega
#print axioms turned
end Ps
end Go.Proofs.YtbfnpdklnbpgjaaDoor
