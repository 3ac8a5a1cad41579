/- What is read of the bytes of code: the specification's reader in one form; what its loops know. -/
import Derived.Test.YtbghghflepjdkaaRcF
namespace Go.Proofs.Ytbghghflepjdkaa
open Go.RowKit

/-- A number, in one form. -/
theorem spVar1 (g : Nat) (s : ByteArray) (a : Nat) (bad : Bool) (w : World) (h : Cu7 w g s a bad) (ha : a ≤ s.size) (hs : s.size ≤ 1048576) :
    Calls Try.prog 9 #[.pointer (some ⟨g, 0, none⟩)] w fun e w' => ∃ (n a' : Nat) (bad' : Bool), e = .returned (.int .i64 (n : Int)) ∧ w.grownBy w' (some g) ∧ Cu7 w' g s a' bad' ∧ n ≤ 1000000000 ∧ a' ≤ s.size ∧
      (bad' = false → bad = false ∧ Rc.rv s.data.toList a = some (n, a')) ∧ (bad' = true → bad = true ∨ Rc.rv s.data.toList a = none) := by
  refine (spVar7 g s a bad w h ha hs).mono ?_
  intro e w' hh
  obtain ⟨he, hm, hg⟩ := hh
  cases hr : Rc.rv s.data.toList a with
  | none =>
    rw [hr] at hm he
    cases bad with
    | false => exact ⟨0, a, true, he, hg, hm, by omega, ha, (fun e => by cases e), fun _ => .inr rfl⟩
    | true => exact ⟨0, a, true, he, hg, hm, by omega, ha, (fun e => by cases e), fun _ => .inl rfl⟩
  | some r =>
    obtain ⟨n, k⟩ := r
    rw [hr] at hm he
    obtain ⟨_, hk, _, hn⟩ := Rc.rv_bytes (by simpa using ha) hr
    cases bad with
    | false => exact ⟨n, k, false, he, hg, hm, hn, by simpa using hk, (fun e => ⟨rfl, rfl⟩), fun e => by cases e⟩
    | true => exact ⟨0, a, true, he, hg, hm, by omega, ha, (fun e => by cases e), fun _ => .inl rfl⟩
/-- A short text, in one form. -/
theorem spShort1 (g : Nat) (s : ByteArray) (a : Nat) (bad : Bool) (w : World) (h : Cu7 w g s a bad) (ha : a ≤ s.size) (hs : s.size ≤ 1048576) :
    Calls Try.prog 10 #[.pointer (some ⟨g, 0, none⟩)] w fun e w' => ∃ (t : List UInt8) (a' : Nat) (bad' : Bool), e = .returned (.string ⟨t.toArray⟩) ∧ w.grownBy w' (some g) ∧ Cu7 w' g s a' bad' ∧ t.length ≤ 20000 ∧ a' ≤ s.size ∧
      (bad' = false → bad = false ∧ Rc.rs s.data.toList a = some (t, a')) ∧ (bad' = true → bad = true ∨ Rc.rs s.data.toList a = none) := by
  refine (spShort7r g s a bad w h ha hs).mono ?_
  intro e w' hh
  obtain ⟨he, hm, hg⟩ := hh
  cases hr : Rc.rs s.data.toList a with
  | none =>
    rw [hr] at hm he
    cases bad with
    | false => exact ⟨[], a, true, he, hg, hm, by simp, ha, (fun e => by cases e), fun _ => .inr rfl⟩
    | true => exact ⟨[], a, true, he, hg, hm, by simp, ha, (fun e => by cases e), fun _ => .inl rfl⟩
  | some r =>
    obtain ⟨t, k⟩ := r
    rw [hr] at hm he
    obtain ⟨_, hk, ht, _⟩ := Rc.rs_bytes (by simpa using ha) hr
    cases bad with
    | false => exact ⟨t, k, false, he, hg, hm, ht, by simpa using hk, (fun e => ⟨rfl, rfl⟩), fun e => by cases e⟩
    | true => exact ⟨[], a, true, he, hg, hm, by simp, ha, (fun e => by cases e), fun _ => .inl rfl⟩

/-- What the specification's loop over instructions knows at round k. -/
def Rc.S2 (s : ByteArray) (ls : List (List UInt8)) (m a3 k : Nat) (xs : List Ins) (a : Nat) (bad : Bool) : Prop :=
  a ≤ s.size ∧ xs.length = k ∧ (bad = true → Rc.ans s.data.toList = none) ∧ (bad = false → (60 < ls.length ∧ Rc.ans s.data.toList = none) ∨ ∃ n a1 a2, n ≤ 60 ∧ Rc.rv s.data.toList 0 = some (n, a1) ∧ Rc.txts s.data.toList a1 n = some (ls, a2) ∧ Rc.rv s.data.toList a2 = some (m, a3) ∧ Rc.inss s.data.toList a3 k = some (xs, a))
theorem Rc.T1.turnS {s : ByteArray} {n a1 k a a' m : Nat} {ls : List (List UInt8)} {bad bad' : Bool} (h : Rc.T1 s n a1 k ls a bad) (hk : k ≤ n) (hx : bad = false → k = n ∨ k = 100) (ha : a' ≤ s.size)
    (h1 : bad' = false → bad = false ∧ Rc.rv s.data.toList a = some (m, a')) (h2 : bad' = true → bad = true ∨ Rc.rv s.data.toList a = none) : Rc.S2 s ls m a' 0 [] a' bad' := by
  obtain ⟨_, hl, hs, hb, hg⟩ := h
  refine ⟨ha, rfl, fun e => ?_, fun e => ?_⟩
  · cases bad with
    | true => exact hb rfl
    | false =>
      obtain ⟨g1, g2⟩ := hg rfl
      rcases h2 e with hh | hh
      · cases hh
      · by_cases hn : 60 < n
        · exact Rc.ans_2 g1 hn
        · have : k = n := by rcases hx rfl with h | h <;> omega
          subst this
          exact Rc.ans_4 g1 g2 hh
  · obtain ⟨e1, e2⟩ := h1 e
    obtain ⟨g1, g2⟩ := hg e1
    by_cases hn : 60 < n
    · exact .inl ⟨by rcases hx e1 with h | h <;> omega, Rc.ans_2 g1 hn⟩
    · have : k = n := by rcases hx e1 with h | h <;> omega
      subst this
      exact .inr ⟨k, a1, a, by omega, g1, g2, e2, rfl⟩
theorem Rc.S2.next {s : ByteArray} {ls : List (List UInt8)} {m a3 k a : Nat} {xs : List Ins} (h : Rc.S2 s ls m a3 k xs a false) (ha : a + 2 ≤ s.size) :
    Rc.S2 s ls m a3 (k + 1) (xs ++ [⟨((s.data.toList.getD a 0).toNat : Int), ((s.data.toList.getD (a + 1) 0).toNat : Int)⟩]) (a + 2) false := by
  obtain ⟨_, hl, hb, hg⟩ := h
  have hsl : s.data.toList.length = s.size := by simp
  refine ⟨ha, by simp [hl], (fun e => by cases e), fun _ => ?_⟩
  rcases hg rfl with hh | ⟨n, a1, a2, g0, g1, g2, g3, g4⟩
  · exact .inl hh
  · exact .inr ⟨n, a1, a2, g0, g1, g2, g3, by rw [Rc.inss_S g4, if_pos (by omega)]⟩
theorem Rc.S2.stop {s : ByteArray} {ls : List (List UInt8)} {m a3 k a : Nat} {xs : List Ins} (h : Rc.S2 s ls m a3 k xs a false) (hk : k < m) (ha : s.size < a + 2) : Rc.S2 s ls m a3 k xs a true := by
  obtain ⟨h0, hl, hb, hg⟩ := h
  have hsl : s.data.toList.length = s.size := by simp
  refine ⟨h0, hl, (fun _ => ?_), fun e => by cases e⟩
  rcases hg rfl with hh | ⟨n, a1, a2, g0, g1, g2, g3, g4⟩
  · exact hh.2
  · refine Rc.ans_6 (k := k + 1) g1 g2 g3 ?_ (by omega)
    rw [Rc.inss_S g4, if_neg (by omega)]
/-- What it knows behind the loops. -/
def Rc.S3 (s : ByteArray) (ls : List (List UInt8)) (xs : List Ins) (a : Nat) (bad : Bool) : Prop :=
  (bad = true → Rc.ans s.data.toList = none) ∧ (bad = false → ((60 < ls.length ∨ 250 < xs.length) ∧ Rc.ans s.data.toList = none) ∨ ∃ n a1 a2 m a3, n ≤ 60 ∧ Rc.rv s.data.toList 0 = some (n, a1) ∧ Rc.txts s.data.toList a1 n = some (ls, a2) ∧ Rc.rv s.data.toList a2 = some (m, a3) ∧ m ≤ 250 ∧ Rc.inss s.data.toList a3 m = some (xs, a))
theorem Rc.S2.done {s : ByteArray} {ls : List (List UInt8)} {m a3 k a : Nat} {xs : List Ins} {bad : Bool} (h : Rc.S2 s ls m a3 k xs a bad) (hk : k ≤ m) (hx : bad = false → k = m ∨ k = 300) : Rc.S3 s ls xs a bad := by
  obtain ⟨h0, hl, hb, hg⟩ := h
  refine ⟨hb, fun e => ?_⟩
  rcases hg e with hh | ⟨n, a1, a2, g0, g1, g2, g3, g4⟩
  · exact .inl ⟨.inl hh.1, hh.2⟩
  · by_cases hm : 250 < m
    · exact .inl ⟨.inr (by rcases hx e with h | h <;> omega), Rc.ans_5 g1 g2 g3 hm⟩
    · have : k = m := by rcases hx e with h | h <;> omega
      subst this
      exact .inr ⟨n, a1, a2, k, a3, g0, g1, g2, g3, by omega, g4⟩
/-- What it knows at its end. -/
def Rc.S5 (s : ByteArray) (ls : List (List UInt8)) (xs : List Ins) (l u : Nat) (bad : Bool) : Prop :=
  Rc.ans s.data.toList = if bad = false ∧ Cd.ok (bas ls) xs 0 (l : Int) (u : Int) = true ∧ Cd.bytes (bas ls) xs (l : Int) (u : Int) = s.data.toList then some (bas ls, xs, l, u) else none
theorem Cd.ok_many {ts : List ByteArray} {xs : List Ins} {l u : Int} (h : 60 < ts.length ∨ 250 < xs.length) : Cd.ok ts xs 0 l u = false := by
  cases hc : Cd.ok ts xs 0 l u with
  | false => rfl
  | true =>
    unfold Cd.ok at hc
    simp only [Bool.and_eq_true, decide_eq_true_eq] at hc
    omega
theorem Rc.S3.last {s : ByteArray} {ls : List (List UInt8)} {xs : List Ins} {a4 a5 a6 l u : Nat} {b4 b5 b6 : Bool} (h : Rc.S3 s ls xs a4 b4)
    (h1 : b5 = false → b4 = false ∧ Rc.rv s.data.toList a4 = some (l, a5)) (h2 : b5 = true → b4 = true ∨ Rc.rv s.data.toList a4 = none)
    (h3 : b6 = false → b5 = false ∧ Rc.rv s.data.toList a5 = some (u, a6)) (h4 : b6 = true → b5 = true ∨ Rc.rv s.data.toList a5 = none) : Rc.S5 s ls xs l u b6 := by
  unfold Rc.S5
  obtain ⟨hb, hg⟩ := h
  cases b6 with
  | true =>
    rw [if_neg (by rintro ⟨h, _⟩; cases h)]
    cases b4 with
    | true => exact hb rfl
    | false =>
      rcases hg rfl with hh | ⟨n, a1, a2, m, a3, g0, g1, g2, g3, g4, g5⟩
      · exact hh.2
      · rw [Rc.ans_7 g1 g0 g2 g3 g4 g5]
        cases b5 with
        | true =>
          rcases h2 rfl with hh | hh
          · cases hh
          · rw [hh]
        | false =>
          rw [(h1 rfl).2]
          simp only
          rcases h4 rfl with hh | hh
          · cases hh
          · rw [hh]
  | false =>
    obtain ⟨e5, r6⟩ := h3 rfl
    subst e5
    obtain ⟨e4, r5⟩ := h1 rfl
    subst e4
    rcases hg rfl with hh | ⟨n, a1, a2, m, a3, g0, g1, g2, g3, g4, g5⟩
    · rw [hh.2, if_neg]
      rintro ⟨_, h, _⟩
      rw [Cd.ok_many (by rcases hh.1 with h | h; exact .inl (by simpa [bas] using h); exact .inr h)] at h
      cases h
    · rw [Rc.ans_7 g1 g0 g2 g3 g4 g5, r5]
      simp only
      rw [r6]
      simp only
      have hw := Rc.run_whole g1 g2 g3 g5 r5 r6
      by_cases hc : Cd.ok (bas ls) xs 0 (l : Int) (u : Int) = true
      · by_cases ha : a6 = s.data.toList.length
        · rw [if_pos ⟨ha, hc⟩, if_pos ⟨by trivial, hc, hw.1 ha⟩]
          rfl
        · rw [if_neg (by rintro ⟨h, _⟩; exact ha h), if_neg (by rintro ⟨_, _, h⟩; exact ha (hw.2 h))]
      · rw [if_neg (by rintro ⟨_, h⟩; exact hc h), if_neg (by rintro ⟨_, h, _⟩; exact hc h)]
end Go.Proofs.Ytbghghflepjdkaa
