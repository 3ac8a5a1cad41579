/- Plain facts, without the program: what VarText, ShortText, Hex and Decimal write is read back. What is read of the bytes of a message: plain facts. -/
import Derived.Test.YtdkenmpdgadcpaaDoorMPRmZac
import Derived.Test.YtdkenmpdgadcpaaDoorMPRmZaw
import Derived.Test.YtdkenmpdgadcpaaDoorMPRmZat
import Derived.Test.YtdkenmpdgadcpaaDoorMPRmZau
namespace Go.Proofs.YtdkenmpdgadcpaaDoor
section PartPlainH
namespace Pl

theorem rvF_vb (g f m : Nat) (pre r : List UInt8) (hp : Goes pre) (hg : m < 128 ^ (g + 1)) (hf : m < 128 ^ f) (h1 : 1 ≤ f) (h0 : m = 0 → pre = []) (ht : val pre + 128 ^ pre.length * m ≤ 1000000000) :
    rvF f pre (vb g m ++ r) = some (val pre + 128 ^ pre.length * m, pre.length + (vb g m).length) := by
  induction g generalizing f m pre with
  | zero =>
    obtain ⟨f, rfl⟩ : ∃ k, f = k + 1 := ⟨f - 1, by omega⟩
    have hm : m < 128 := by simpa using hg
    have hb : (UInt8.ofNat m).toNat = m := small m (by omega)
    have hv : val (pre ++ [UInt8.ofNat m]) = val pre + 128 ^ pre.length * m := by rw [val_snoc, hb, Nat.mod_eq_of_lt hm]
    rw [vb_last 0 m (by omega), List.singleton_append, rvF_end f pre _ r (by omega) ?_, hv]
    · simp
    · rw [hv, hb]
      rintro (⟨e, hl⟩ | h)
      · rw [h0 e] at hl; simp at hl
      · omega
  | succ g ih =>
    obtain ⟨f, rfl⟩ : ∃ k, f = k + 1 := ⟨f - 1, by omega⟩
    by_cases hm : 127 < m
    · have hbn := hb_nat m
      have hd : m / 128 ≠ 0 := by omega
      have hf2 : m / 128 < 128 ^ f := by rw [Nat.pow_succ] at hf; omega
      have hf1 : 1 ≤ f := by
        rcases Nat.eq_zero_or_pos f with e | e
        · subst e; simp at hf2; omega
        · exact e
      have hval : val (pre ++ [hb m]) = val pre + 128 ^ pre.length * (m % 128) := by rw [val_snoc, hb_nat, Nat.add_mod_right, Nat.mod_mod]
      have htot : val (pre ++ [hb m]) + 128 ^ (pre ++ [hb m]).length * (m / 128) = val pre + 128 ^ pre.length * m := by
        rw [hval, List.length_append, List.length_singleton, Nat.pow_succ, Nat.mul_assoc, Nat.add_assoc, ← Nat.mul_add, Nat.add_comm (m % 128), Nat.div_add_mod]
      rw [vb_more g m hm, List.cons_append, rvF_on f pre _ _ (by omega), ih f (m / 128) (pre ++ [hb m]) (hp.snoc (by omega)) (by rw [Nat.pow_succ] at hg; omega) hf2 hf1 (fun e => absurd e hd) (by rw [htot]; exact ht), htot]
      simp
      omega
    · have hb : (UInt8.ofNat m).toNat = m := small m (by omega)
      have hv : val (pre ++ [UInt8.ofNat m]) = val pre + 128 ^ pre.length * m := by rw [val_snoc, hb, Nat.mod_eq_of_lt (by omega)]
      rw [vb_last _ m hm, List.singleton_append, rvF_end f pre _ r (by omega) ?_, hv]
      · simp
      · rw [hv, hb]
        rintro (⟨e, hl⟩ | h)
        · rw [h0 e] at hl; simp at hl
        · omega
theorem rv_back (m : Nat) (r : List UInt8) (h : m ≤ 1000000000) : rvF 5 [] (vb 8 m ++ r) = some (m, (vb 8 m).length) := by
  have := rvF_vb 8 5 m [] r (fun _ h => by cases h) (by show m < 128 ^ 9; omega) (by show m < 128 ^ 5; omega) (by omega) (fun _ => rfl) (by simp [val]; exact h)
  simpa [val] using this

end Pl
end PartPlainH
section PartRmP
open Go.RowKit

namespace Rc
theorem rv_atM {L r : List UInt8} {a m : Nat} (h : L.drop a = Pl.vb 8 m ++ r) (hm : m ≤ 1000000000) : rv L a = some (m, a + (Pl.vb 8 m).length) ∧ L.drop (a + (Pl.vb 8 m).length) = r := by
  refine ⟨?_, ?_⟩
  · unfold rv
    rw [h, Pl.rv_back m r hm]
    rfl
  · rw [← List.drop_drop, h, List.drop_left]
end Rc
namespace Ms
/-- The bytes behind two bytes and two numbers. -/
theorem raw_of {U : List UInt8} {n1 n2 a1 a2 : Nat} (h2 : 2 ≤ U.length) (r1 : Rc.rv U 2 = some (n1, a1)) (r2 : Rc.rv U a1 = some (n2, a2)) :
    Ms.raw ⟨((U.getD 0 0).toNat : Int), ((U.getD 1 0).toNat : Int), (n1 : Int), (n2 : Int), ⟨(U.drop a2).toArray⟩⟩ = U := by
  obtain ⟨-, k1, g1, -⟩ := Rc.rv_bytes h2 r1
  obtain ⟨-, -, g2, -⟩ := Rc.rv_bytes k1 r2
  have e : U = U.take a2 ++ U.drop a2 := (List.take_append_drop a2 U).symm
  have t2 : U.take 2 = [U.getD 0 0, U.getD 1 0] := by
    match U, h2 with
    | a :: b :: l, _ => rfl
  unfold raw head
  simp only [Int.toNat_natCast, UInt8.ofNat_toNat]
  conv => rhs; rw [e, g2, g1, t2]
theorem of_raw {U : List UInt8} {m : Ms} (hk : m.ok = true) (h : m.raw = U) :
    2 ≤ U.length ∧ m.kind = ((U.getD 0 0).toNat : Int) ∧ m.worker = ((U.getD 1 0).toNat : Int) ∧ ∃ (n1 n2 a1 a2 : Nat), m.task = (n1 : Int) ∧ m.try_ = (n2 : Int) ∧ n1 ≤ 20 ∧ n2 ≤ 1000000000 ∧ Rc.rv U 2 = some (n1, a1) ∧ Rc.rv U a1 = some (n2, a2) ∧ m.body = ⟨(U.drop a2).toArray⟩ ∧ m.body.size ≤ 15000 := by
  obtain ⟨h1, h2, h3, h4, h5, -⟩ := ok_facts hk
  obtain ⟨kd, wk, tk, tr, bo⟩ := m
  simp only at h1 h2 h3 h4 h5
  obtain ⟨kd, rfl⟩ : ∃ n : Nat, kd = (n : Int) := ⟨kd.toNat, by omega⟩
  obtain ⟨wk, rfl⟩ : ∃ n : Nat, wk = (n : Int) := ⟨wk.toNat, by omega⟩
  obtain ⟨tk, rfl⟩ : ∃ n : Nat, tk = (n : Int) := ⟨tk.toNat, by omega⟩
  obtain ⟨tr, rfl⟩ : ∃ n : Nat, tr = (n : Int) := ⟨tr.toNat, by omega⟩
  have e : U = UInt8.ofNat kd :: UInt8.ofNat wk :: (Pl.vb 8 tk ++ (Pl.vb 8 tr ++ bo.data.toList)) := by
    rw [← h]
    simp [raw, head]
  have d2 : U.drop 2 = Pl.vb 8 tk ++ (Pl.vb 8 tr ++ bo.data.toList) := by rw [e]; rfl
  obtain ⟨r1, d3⟩ := Rc.rv_atM d2 (by omega)
  obtain ⟨r2, d4⟩ := Rc.rv_atM d3 (by omega)
  refine ⟨by rw [e]; simp, ?_, ?_, tk, tr, _, _, rfl, rfl, by omega, by omega, r1, r2, ?_, h5⟩
  · rw [e]; simp; omega
  · rw [e]; simp; omega
  · rw [d4]
/-- What is read of the bytes T: the right message whose bytes, sealed, these are, or none. -/
def Ans (T : ByteArray) (e : Ending) : Prop :=
  (∃ m : Ms, Ps.isS T ∧ m.ok = true ∧ m.raw = T.data.toList.take (T.size - 4) ∧ e = .returned (.tuple #[m.val, .bool true])) ∨
  ((∀ m : Ms, Ps.isS T → m.ok = true → m.raw ≠ T.data.toList.take (T.size - 4)) ∧ e = .returned (.tuple #[.agg #[.int .i64 0, .int .i64 0, .int .i64 0, .int .i64 0, .string ⟨#[]⟩], .bool false]))
theorem raw_one {U : List UInt8} {m m' : Ms} (h1 : m.ok = true) (h2 : m.raw = U) (h3 : m'.ok = true) (h4 : m'.raw = U) : m = m' := by
  obtain ⟨-, a1, a2, n1, n2, p1, p2, a3, a4, -, -, a5, a6, a7, -⟩ := of_raw h1 h2
  obtain ⟨-, b1, b2, q1, q2, s1, s2, b3, b4, -, -, b5, b6, b7, -⟩ := of_raw h3 h4
  rw [a5] at b5
  simp only [Option.some.injEq, Prod.mk.injEq] at b5
  obtain ⟨rfl, rfl⟩ := b5
  rw [a6] at b6
  simp only [Option.some.injEq, Prod.mk.injEq] at b6
  obtain ⟨rfl, rfl⟩ := b6
  cases m; cases m'
  simp only at *
  rw [a1, a2, a3, a4, a7, b1, b2, b3, b4, b7]
theorem raw_same {U : List UInt8} {n1 n2 a1 a2 : Nat} {m : Ms} (r1 : Rc.rv U 2 = some (n1, a1)) (r2 : Rc.rv U a1 = some (n2, a2)) (h1 : m.ok = true) (h2 : m.raw = U) : m = ⟨((U.getD 0 0).toNat : Int), ((U.getD 1 0).toNat : Int), (n1 : Int), (n2 : Int), ⟨(U.drop a2).toArray⟩⟩ := by
  obtain ⟨-, b1, b2, q1, q2, s1, s2, b3, b4, -, -, b5, b6, b7, -⟩ := of_raw h1 h2
  rw [r1] at b5
  simp only [Option.some.injEq, Prod.mk.injEq] at b5
  obtain ⟨rfl, rfl⟩ := b5
  rw [r2] at b6
  simp only [Option.some.injEq, Prod.mk.injEq] at b6
  obtain ⟨rfl, rfl⟩ := b6
  cases m
  simp only at *
  rw [b1, b2, b3, b4, b7]
/-- The answer in one form. -/
theorem ans_form (T : ByteArray) : ∃ (m : Ms) (ok : Bool), ∀ e, Ans T e → e = .returned (.tuple #[m.val, .bool ok]) := by
  by_cases h : ∃ m : Ms, Ps.isS T ∧ m.ok = true ∧ m.raw = T.data.toList.take (T.size - 4)
  · obtain ⟨m, h0, h1, h2⟩ := h
    refine ⟨m, true, fun e he => ?_⟩
    rcases he with ⟨m', -, k1, k2, rfl⟩ | ⟨hn, -⟩
    · rw [raw_one k1 k2 h1 h2]
    · exact absurd h2 (hn m h0 h1)
  · refine ⟨⟨0, 0, 0, 0, ⟨#[]⟩⟩, false, fun e he => ?_⟩
    rcases he with ⟨m', k0, k1, k2, rfl⟩ | ⟨-, rfl⟩
    · exact absurd ⟨m', k0, k1, k2⟩ h
    · rfl
/-- Sealed it is T again. -/
theorem seal_back {T : ByteArray} {m : Ms} (hs : Ps.isS T) (hk : m.ok = true) (h : m.raw = T.data.toList.take (T.size - 4)) : m.text? = .tuple #[.string T, .bool true] := by
  have hl := raw_len hk
  unfold text?
  rw [if_pos hk, sealRes_yes _ (by show m.raw.toArray.size ≤ 20000; simp; omega)]
  have e : m.raw ++ Ps.four (Ps.sm 4294967295 m.raw) = T.data.toList := by
    rw [h, ← hs.2.2, List.take_append_drop]
  have : (⟨(m.raw ++ Ps.four (Ps.sm 4294967295 m.raw)).toArray⟩ : ByteArray) = T := by
    rw [e]
  rw [← this]
end Ms
end PartRmP
end Go.Proofs.YtdkenmpdgadcpaaDoor
