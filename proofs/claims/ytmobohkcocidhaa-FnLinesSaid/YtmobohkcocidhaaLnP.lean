/- Lines of a text, plainly. -/
import Derived.Test.YtmobohkcocidhaaProg
import Derived.WalkKit
import Derived.Handy
namespace Go.Proofs.Ytmobohkcocidhaa
open Go.RowKit
namespace Ln
/-- The first n lines. -/
def go : Nat → List UInt8 → List (List UInt8)
  | 0, _ => []
  | _ + 1, [] => []
  | n + 1, b :: l => (b :: l).takeWhile (fun x => x != 10) :: go n (((b :: l).dropWhile (fun x => x != 10)).drop 1)
/-- The lines of a text. -/
def all (l : List UInt8) : List (List UInt8) := go 20 l

theorem go_nil (n : Nat) : go n [] = [] := by cases n <;> rfl
theorem go_len : ∀ (n : Nat) (l : List UInt8), (go n l).length ≤ n
  | 0, _ => by simp [go]
  | n + 1, [] => by simp [go]
  | n + 1, b :: l => by
    have := go_len n (((b :: l).dropWhile (fun x => x != 10)).drop 1)
    simp only [go, List.length_cons]
    omega
theorem all_len (l : List UInt8) : (all l).length ≤ 20 := go_len 20 l

theorem while_at : ∀ (l : List UInt8) (k : Nat), l[k]? = some 10 → (∀ j, j < k → l[j]? ≠ some 10) →
    l.takeWhile (fun x => x != 10) = l.take k ∧ l.dropWhile (fun x => x != 10) = l.drop k
  | [], k, h, _ => by simp at h
  | b :: l, 0, h, _ => by
    have e : b = 10 := by simpa using h
    subst e
    simp
  | b :: l, k + 1, h, hn => by
    have hb : (b != 10) = true := by
      have := hn 0 (by omega)
      simpa using this
    have ih := while_at l k (by simpa using h) (fun j hj => by simpa using hn (j + 1) (by omega))
    rw [List.takeWhile_cons_of_pos (by exact hb), List.dropWhile_cons_of_pos (by exact hb), ih.1, ih.2]
    simp
theorem while_no (l : List UInt8) (hn : ∀ j : Nat, l[j]? ≠ some 10) :
    l.takeWhile (fun x => x != 10) = l ∧ l.dropWhile (fun x => x != 10) = [] := by
  induction l with
  | nil => simp
  | cons b l ih =>
    have hb : (b != 10) = true := by
      have := hn 0
      simpa using this
    have ih := ih (fun j => by simpa using hn (j + 1))
    rw [List.takeWhile_cons_of_pos (by exact hb), List.dropWhile_cons_of_pos (by exact hb), ih.1, ih.2]
    simp

theorem go_at (n : Nat) (l : List UInt8) (k : Nat) (h : l[k]? = some 10) (hn : ∀ j, j < k → l[j]? ≠ some 10) :
    go (n + 1) l = l.take k :: go n (l.drop (k + 1)) := by
  have hw := while_at l k h hn
  cases l with
  | nil => simp at h
  | cons b l => rw [go, hw.1, hw.2, List.drop_drop]
theorem go_no (n : Nat) (l : List UInt8) (h0 : l ≠ []) (hn : ∀ j : Nat, l[j]? ≠ some 10) : go (n + 1) l = [l] := by
  have hw := while_no l hn
  cases l with
  | nil => exact absurd rfl h0
  | cons b l => rw [go, hw.1, hw.2]; simp [go_nil]

/-- What stands when the first lines are told, and what is left begins at p, with no end up to k. -/
structure At (s : ByteArray) (k p : Nat) (ws : List (List UInt8)) : Prop where
  few : ws.length ≤ 20
  same : ws ++ go (20 - ws.length) (s.data.toList.drop p) = all s.data.toList
  none : ∀ j, p ≤ j → j < k → s.data.toList[j]? ≠ some 10
theorem At.start (s : ByteArray) : At s 0 0 [] := ⟨by simp, by simp [all], fun j _ h => by omega⟩
theorem at_list (s : ByteArray) (k : Nat) (h : k < s.size) : s.data.toList[k]? = some s[k] := by
  have : k < s.data.toList.length := by simpa using h
  rw [List.getElem?_eq_getElem this]
  simp [ByteArray.getElem_eq_getElem_data]
theorem At.sign {s : ByteArray} {k p : Nat} {ws : List (List UInt8)} (h : At s k p ws) (hk : k < s.size) (hb : s[k].toNat ≠ 10) : At s (k + 1) p ws := by
  refine ⟨h.few, h.same, fun j h1 h2 => ?_⟩
  by_cases e : j = k
  · subst e
    rw [at_list s j hk]
    intro hx
    have : s[j] = 10 := by simpa using hx
    rw [this] at hb
    exact hb rfl
  · exact h.none j h1 (by omega)
theorem At.cut {s : ByteArray} {k p : Nat} {ws : List (List UInt8)} (h : At s k p ws) (hp : p ≤ k) (hk : k < s.size) (hb : s[k].toNat = 10) (hf : ws.length < 20) :
    At s (k + 1) (k + 1) (ws ++ [(s.data.toList.drop p).take (k - p)]) := by
  have hbk : s[k] = 10 := UInt8.toNat.inj hb
  refine ⟨by simp; omega, ?_, fun j h1 h2 => by omega⟩
  have hg := go_at (20 - (ws.length + 1)) (s.data.toList.drop p) (k - p) (by
    rw [List.getElem?_drop, show p + (k - p) = k by omega, at_list s k hk, hbk]) (fun j hj => by
    rw [List.getElem?_drop]
    exact h.none (p + j) (by omega) (by omega))
  rw [show 20 - (ws.length + 1) + 1 = 20 - ws.length by omega, List.drop_drop, show p + (k - p + 1) = k + 1 by omega] at hg
  rw [← h.same, hg]
  simp
theorem At.over {s : ByteArray} {k p : Nat} {ws : List (List UInt8)} (h : At s k p ws) (hk : k = s.size) (hp : p < s.size) (hf : ws.length < 20) :
    ws ++ [s.data.toList.drop p] = all s.data.toList := by
  rw [← h.same, show 20 - ws.length = (20 - ws.length - 1) + 1 by omega, go_no]
  · intro e
    have : (s.data.toList.drop p).length = 0 := by rw [e]; rfl
    simp at this
    omega
  · intro j
    rw [List.getElem?_drop]
    by_cases hj : p + j < k
    · exact h.none _ (by omega) hj
    · rw [List.getElem?_eq_none (by simp; omega)]
      simp
theorem At.none_left {s : ByteArray} {k p : Nat} {ws : List (List UInt8)} (h : At s k p ws) (hp : s.size ≤ p) : ws = all s.data.toList := by
  rw [← h.same, List.drop_eq_nil_of_le (by simpa using hp), go_nil, List.append_nil]
theorem At.full {s : ByteArray} {k p : Nat} {ws : List (List UInt8)} (h : At s k p ws) (hf : ¬ ws.length < 20) : ws = all s.data.toList := by
  rw [← h.same, show 20 - ws.length = 0 by omega]
  simp [go]

/-- The same of what is left of the text. -/
structure Lf (l : List UInt8) (t : ByteArray) (ws : List (List UInt8)) : Prop where
  few : ws.length ≤ 20
  same : ws ++ go (20 - ws.length) t.data.toList = all l
theorem Lf.start (s : ByteArray) : Lf s.data.toList s [] := ⟨by simp, by simp [all]⟩
theorem Lf.no {l : List UInt8} {t : ByteArray} {ws : List (List UInt8)} (h : Lf l t ws) (h0 : 0 < t.size) (hf : ws.length < 20) (hn : ∀ j : Nat, t.data.toList[j]? ≠ some 10) :
    Lf l ⟨#[]⟩ (ws ++ [t.data.toList]) := by
  refine ⟨by simp; omega, ?_⟩
  rw [← h.same, show 20 - ws.length = (20 - ws.length - 1) + 1 by omega, go_no _ _ ?_ hn]
  · simp [go_nil]
  · intro e
    have h1 : t.data.toList.length = t.size := by simp
    rw [e] at h1
    simp at h1
    omega
theorem ext_list (t : ByteArray) (a b : Nat) : (t.extract a b).data.toList = (t.data.toList.drop a).take (b - a) := by
  simp [ByteArray.data_extract]
theorem ext_eq (t : ByteArray) (a b : Nat) : t.extract a b = ⟨((t.data.toList.drop a).take (b - a)).toArray⟩ := by
  apply ByteArray.ext
  rw [← ext_list]
theorem ext_end (t : ByteArray) (a : Nat) : t.extract a t.size = ⟨(t.data.toList.drop a).toArray⟩ := by
  rw [ext_eq, List.take_of_length_le (by simp)]
theorem ext_take (t : ByteArray) (b : Nat) : t.extract 0 b = ⟨(t.data.toList.take b).toArray⟩ := by
  rw [ext_eq]
  simp
theorem Lf.cut {l : List UInt8} {t : ByteArray} {ws : List (List UInt8)} (h : Lf l t ws) (i : Nat) (_hi : i < t.size) (hf : ws.length < 20) (h1 : t.data.toList[i]? = some 10) (hn : ∀ j, j < i → t.data.toList[j]? ≠ some 10) :
    Lf l (t.extract (i + 1) t.size) (ws ++ [t.data.toList.take i]) := by
  refine ⟨by simp; omega, ?_⟩
  rw [← h.same, show 20 - ws.length = (20 - ws.length - 1) + 1 by omega, go_at _ _ i h1 hn, ext_list, List.take_of_length_le (l := t.data.toList.drop (i + 1)) (by simp)]
  simp [show 20 - (ws.length + 1) = 20 - ws.length - 1 by omega]
theorem Lf.over {l : List UInt8} {t : ByteArray} {ws : List (List UInt8)} (h : Lf l t ws) (h0 : t = ⟨#[]⟩) : ws = all l := by
  subst h0
  rw [← h.same]
  simp [go_nil]
theorem Lf.full {l : List UInt8} {t : ByteArray} {ws : List (List UInt8)} (h : Lf l t ws) (hf : ¬ ws.length < 20) : ws = all l := by
  rw [← h.same, show 20 - ws.length = 0 by omega]
  simp [go]
end Ln
end Go.Proofs.Ytmobohkcocidhaa
