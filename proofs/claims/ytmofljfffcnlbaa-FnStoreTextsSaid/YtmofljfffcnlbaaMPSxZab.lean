/- A store in memory: how great it is, the law's own copy of it, two of the same, what is handed in. What a store answers: plain facts. Plain facts, without the program: what is a number among texts, the number of a text, what is cut of it, and the fields of a line. The contract of the library's Clone, laid at this program: the same bytes, in memory of its own. -/
import Derived.Test.YtmofljfffcnlbaaMPSxStV
import Derived.Test.YtmofljfffcnlbaaMPSxStC
import Derived.Shelf.LaysM
import Derived.Shelf.Strconv.Clone
import Derived.Test.YtmofljfffcnlbaaProg
import Derived.WalkKit
namespace Go.Proofs.Ytmofljfffcnlbaa
section PartStS
open Go.RowKit

theorem s2_1 (w : World) (A B : Obj) : ((w.alloc A).alloc B).heap[w.heap.size + 1]? = some B := by
  show ((w.heap.push A).push B)[w.heap.size + 1]? = some B
  rw [Array.getElem?_push]
  simp
theorem s2_0 (w : World) (A B : Obj) : ((w.alloc A).alloc B).heap[w.heap.size]? = some A := by
  show ((w.heap.push A).push B)[w.heap.size]? = some A
  rw [Array.getElem?_push, if_neg (by simp), Array.getElem?_push]
  simp
/-- A store that is not great. -/
def StSmall (vs : List Vr) (cs : List Cl) (o : ByteArray) : Prop :=
  vs.length ≤ 1048576 ∧ VrSmall vs vs.length ∧ cs.length ≤ 1048576 ∧ ClSmall cs cs.length ∧ o.size ≤ 1048576

end PartStS
section PartSvP
namespace St
/-- The first that p says so of. -/
def first {α : Type} (p : α → Bool) (no : α) : List α → α
  | [] => no
  | x :: r => if p x then x else first p no r
/-- What CellOf answers, the key cut. -/
def cell (cs : List Cl) (name key : ByteArray) : ByteArray := (first (fun x : Cl => (x.name.toList == name.toList) && (x.key.toList == key.toList)) Cl.no cs).val
end St
end PartSvP
section PartPV
namespace Pv

/-- Is it a figure? -/
def fg (b : UInt8) : Bool := decide (48 ≤ b.toNat ∧ b.toNat ≤ 57)
/-- Is it a number: one to six figures, and nothing else? -/
def isn (l : List UInt8) : Bool := l.all fg && decide (1 ≤ l.length ∧ l.length ≤ 6)
/-- The number that n grows to by the figures ahead. -/
def num : Nat → List UInt8 → Nat
  | n, [] => n
  | n, b :: r => if fg b then num ((n * 10 + (b.toNat - 48)) % 1000000) r else n
/-- Without the blanks ahead. -/
def skip (l : List UInt8) : List UInt8 := l.dropWhile (· == 32)
theorem drop_at (s : ByteArray) (k : Nat) (h : k < s.size) : s.data.toList.drop k = s[k] :: s.data.toList.drop (k + 1) := by
  rw [List.drop_eq_getElem_cons (by simpa using h)]; rfl
theorem drop_end (s : ByteArray) (k : Nat) (h : s.size ≤ k) : s.data.toList.drop k = [] := List.drop_of_length_le (by simpa using h)
/-- What is cut of a text. -/
def cut (l : List UInt8) : List UInt8 := l.take 40
theorem cut_short (l : List UInt8) (h : l.length ≤ 40) : cut l = l := List.take_of_length_le h

/-- Does it part fields? -/
def gap (b : UInt8) : Bool := decide (b.toNat = 32 ∨ b.toNat = 9)
/-- The parts of what is left, cur being read already. -/
def fld : List UInt8 → List UInt8 → List (List UInt8)
  | cur, [] => if cur = [] then [] else [cut cur]
  | cur, b :: r => if gap b then (if cur = [] then fld [] r else cut cur :: fld [] r) else fld (cur ++ [b]) r
/-- The fields of a line. -/
def flds (l : List UInt8) : List (List UInt8) := (fld [] l).take 20
theorem fld_end (cur : List UInt8) (h : cur ≠ []) : fld cur [] = [cut cur] := by rw [fld, if_neg h]
theorem fld_end0 : fld [] [] = [] := rfl
theorem fld_gap (cur : List UInt8) (h : cur ≠ []) (b : UInt8) (hb : gap b = true) (r : List UInt8) : fld cur (b :: r) = cut cur :: fld [] r := by rw [fld, if_pos hb, if_neg h]
theorem fld_gap0 (b : UInt8) (hb : gap b = true) (r : List UInt8) : fld [] (b :: r) = fld [] r := by rw [fld, if_pos hb, if_pos rfl]
theorem cur_ne (s : ByteArray) (p k : Nat) (hp : p < k) (h : k ≤ s.size) : (s.data.toList.drop p).take (k - p) ≠ [] := by
  intro e
  have := congrArg List.length e
  simp at this
  omega
theorem cur_nil (s : ByteArray) (k : Nat) : (s.data.toList.drop k).take (k - k) = [] := by simp

/-- What is held at a round's head: ws are the fields that are done (no more than twenty), the next one begins at p, k signs are read. -/
structure At (s : ByteArray) (k p : Nat) (ws : List (List UInt8)) : Prop where
  inside : k ≤ s.size → p ≤ k ∧ (ws ++ fld ((s.data.toList.drop p).take (k - p)) (s.data.toList.drop k)).take 20 = flds s.data.toList
  over : s.size < k → ws = flds s.data.toList
  few : ws.length ≤ 20
theorem At.start (s : ByteArray) : At s 0 0 [] := ⟨fun _ => ⟨Nat.le_refl _, rfl⟩, fun h => by omega, by simp⟩
theorem At.gap {s : ByteArray} {k p : Nat} {ws : List (List UInt8)} (h : At s k p ws) (hk : k < s.size) (hb : s[k].toNat = 32 ∨ s[k].toNat = 9) :
    (p < k → ws.length < 20 → At s (k + 1) (k + 1) (ws ++ [cut ((s.data.toList.drop p).take (k - p))])) ∧ (p < k → 20 ≤ ws.length → At s (k + 1) (k + 1) ws) ∧ (¬ p < k → At s (k + 1) (k + 1) ws) := by
  obtain ⟨i1, i2⟩ := h.inside (by omega)
  have hg : Pv.gap s[k] = true := decide_eq_true hb
  refine ⟨fun hp hw => ?_, fun hp hw => ?_, fun hp => ?_⟩
  · refine ⟨fun _ => ⟨Nat.le_refl _, ?_⟩, fun ho => by omega, by simp; omega⟩
    rw [← i2, drop_at s k hk, fld_gap _ (cur_ne s p k hp (by omega)) _ hg, cur_nil]
    simp
  · have hw2 : ws.length = 20 := by have := h.few; omega
    refine ⟨fun _ => ⟨Nat.le_refl _, ?_⟩, fun ho => by omega, h.few⟩
    rw [← i2, List.take_append_of_le_length (by omega), List.take_append_of_le_length (by omega)]
  · obtain rfl : p = k := by omega
    refine ⟨fun _ => ⟨Nat.le_refl _, ?_⟩, fun ho => by omega, h.few⟩
    rw [← i2, cur_nil, cur_nil, drop_at s p hk, fld_gap0 _ hg]
theorem At.last {s : ByteArray} {k p : Nat} {ws : List (List UInt8)} (h : At s k p ws) (hk : k = s.size) :
    (p < k → ws.length < 20 → At s (k + 1) (k + 1) (ws ++ [cut ((s.data.toList.drop p).take (k - p))])) ∧ (p < k → 20 ≤ ws.length → At s (k + 1) (k + 1) ws) ∧ (¬ p < k → At s (k + 1) (k + 1) ws) := by
  obtain ⟨i1, i2⟩ := h.inside (by omega)
  have hd : s.data.toList.drop k = [] := drop_end s k (by omega)
  rw [hd] at i2
  refine ⟨fun hp hw => ?_, fun hp hw => ?_, fun hp => ?_⟩
  · refine ⟨fun ho => by omega, fun _ => ?_, by simp; omega⟩
    rw [← i2, fld_end _ (cur_ne s p k hp (by omega))]
    exact (List.take_of_length_le (by rw [List.length_append, List.length_singleton]; omega)).symm
  · have hw2 : ws.length = 20 := by have := h.few; omega
    refine ⟨fun ho => by omega, fun _ => ?_, h.few⟩
    rw [← i2, List.take_append_of_le_length (by omega), List.take_of_length_le (by omega)]
  · obtain rfl : p = k := by omega
    refine ⟨fun ho => by omega, fun _ => ?_, h.few⟩
    rw [← i2, cur_nil, fld_end0, List.append_nil, List.take_of_length_le h.few]
/-- Twenty fields are all. -/
theorem At.full {s : ByteArray} {k p : Nat} {ws : List (List UInt8)} (h : At s k p ws) (hw : 20 ≤ ws.length) : ws = flds s.data.toList := by
  by_cases hk : k ≤ s.size
  · obtain ⟨i1, i2⟩ := h.inside hk
    rw [← i2, List.take_append_of_le_length hw, List.take_of_length_le h.few]
  · exact h.over (by omega)
end Pv
end PartPV
section PartShelfC
open Go.Shelf
def Try.laysM316_ren : Go.Shelf.Ren := ⟨fun | 316 => 65 | n => n, fun | 9 => 9 | 3 => 3 | 4 => 4 | 37 => 22 | 0 => 0 | 127 => 82 | 5 => 5 | n => n, fun | n => n⟩
theorem Try.laysM316 : Go.Proofs.LaysM.n316 Try.prog Try.laysM316_ren := {
  mixed := by kernel_rfl
  f316 := Try.func65.trans (congrArg some (by kernel_rfl))
  t0 := Try.underlying0
  a0 := Try.isAgg0
  z0 := Try.sizeOf0
  v0 := Try.zeroValue0
  t3 := Try.underlying3
  a3 := Try.isAgg3
  z3 := Try.sizeOf3
  v3 := Try.zeroValue3
  t4 := Try.underlying4
  a4 := Try.isAgg4
  z4 := Try.sizeOf4
  v4 := Try.zeroValue4
  t9 := Try.underlying9
  a9 := Try.isAgg9
  z9 := Try.sizeOf9
  v9 := Try.zeroValue9
  t37 := Try.underlying22
  a37 := Try.isAgg22
  z37 := Try.sizeOf22
  v37 := Try.zeroValue22
  t127 := Try.underlying82
  a127 := Try.isAgg82
  z127 := Try.sizeOf82
  v127 := Try.zeroValue82
  t5 := Try.underlying5
  a5 := Try.isAgg5
  z5 := Try.sizeOf5
  v5 := Try.zeroValue5
  i0 := by kernel_rfl
  i3 := by kernel_rfl
  i4 := by kernel_rfl
  i5 := by kernel_rfl
  i9 := by kernel_rfl
  i37 := by kernel_rfl
  i127 := by kernel_rfl }
open Go.RowKit in
theorem Try.stringslite_Clone (s : ByteArray) (w : World) (hlim : s.size ≤ 281474976710656) :
    Calls Try.prog 65 #[.string s] w fun e w' => e = .returned (.string s) ∧ Below w.heap.size w w' := Any.stringslite_Clone Try.laysM316 s w hlim
end PartShelfC
end Go.Proofs.Ytmofljfffcnlbaa
