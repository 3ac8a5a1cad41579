/- Small plain facts for sums. A sum in four bytes, as a string; what Sealed answers. -/
import Derived.Test.YtdkenmpdgadcpaaDoorMPRmZaq
import Derived.WalkKit
import Derived.Test.YtdkenmpdgadcpaaDoorMPRmZaa
namespace Go.Proofs.YtdkenmpdgadcpaaDoor
section PartSumK
open Go.RowKit

theorem Ps.take_snoc (s : ByteArray) (k : Nat) (h : k < s.size) : s.data.toList.take (k + 1) = s.data.toList.take k ++ [s[k]] := by
  rw [List.take_succ_eq_append_getElem (by simpa using h)]; rfl

theorem Ps.take_all (s : ByteArray) (k : Nat) (h : s.size ≤ k) : s.data.toList.take k = s.data.toList := List.take_of_length_le (by simpa using h)

theorem Ps.st_odd (x : Nat) (h : x % 2 = 1) : Ps.st x = x / 2 ^^^ 3558460437 := by unfold Ps.st; rw [if_pos h]

theorem Ps.st_even (x : Nat) (h : x % 2 = 0) : Ps.st x = x / 2 := by unfold Ps.st; rw [if_neg (by omega)]

theorem Ps.stN_snoc (k x : Nat) : Ps.st (Ps.stN k x) = Ps.stN (k + 1) x := by rw [Ps.stN_add]; rfl
end PartSumK
section PartSealK
open Go.RowKit

theorem Ps.strOf4 (x : Nat) (hx : x < 4294967296) : strOfNums [(x : Int) / 16777216, (x : Int) / 65536 % 256, (x : Int) / 256 % 256, (x : Int) % 256] = ⟨(Ps.four x).toArray⟩ := by
  unfold strOfNums
  congr 2
  simp only [List.map_cons, List.map_nil, Ps.four, List.cons.injEq, and_true]
  have h (a b : Nat) (hab : a % 256 = b % 256) : UInt8.ofNat a = UInt8.ofNat b := by
    apply UInt8.toNat_inj.1
    simp only [UInt8.toNat_ofNat']
    exact hab
  exact ⟨h _ _ (by omega), h _ _ (by omega), h _ _ (by omega), h _ _ (by omega)⟩

/-- The string of four bytes that lie in a block. -/
theorem four_str (W : World) (g x : Nat) (t : TypeId) (hx : x < 4294967296)
    (hg : W.heap[g]? = some (.cells #[.int .u8 ((x : Int) / 16777216), .int .u8 ((x : Int) / 65536 % 256), .int .u8 ((x : Int) / 256 % 256), .int .u8 ((x : Int) % 256)] t (0, 0))) :
    (convert 36 9 (.slice (some ⟨g, 0, none⟩) 4 4)).run Tryd.prog W = .ok (.string ⟨(Ps.four x).toArray⟩) W := by
  rw [← Ps.strOf4 x hx]
  refine run_convert_bytes_arg (P := Tryd.prog) W 36 5 Tryd.underlying36 Tryd.underlying5 g 0 4 4 [(x : Int) / 16777216, (x : Int) / 65536 % 256, (x : Int) / 256 % 256, (x : Int) % 256] rfl ?_ 9 Tryd.underlying9
  intro j hj
  rw [Nat.zero_add, cell_of_row W g j _ t (0, 0) hg]
  rcases j with _ | _ | _ | _ | j
  · rfl
  · rfl
  · rfl
  · rfl
  · omega

theorem heap_new (W : World) (o : Obj) : (W.alloc o).heap[W.heap.size]? = some o := by
  show (W.heap.push o)[W.heap.size]? = some o
  simp

theorem Ps.app_str (s : ByteArray) (l : List UInt8) : s ++ (⟨l.toArray⟩ : ByteArray) = ⟨(s.data.toList ++ l).toArray⟩ := by
  apply ByteArray.ext
  simp

/-- What Sealed answers. -/
def sealRes (s : ByteArray) : Value := if s.size ≤ 20000 then .tuple #[.string ⟨(s.data.toList ++ Ps.four (Ps.sm 4294967295 s.data.toList)).toArray⟩, .bool true] else .tuple #[.string ⟨#[]⟩, .bool false]

theorem sealRes_yes (s : ByteArray) (h : s.size ≤ 20000) : sealRes s = .tuple #[.string ⟨(s.data.toList ++ Ps.four (Ps.sm 4294967295 s.data.toList)).toArray⟩, .bool true] := by unfold sealRes; rw [if_pos h]

theorem sealRes_no (s : ByteArray) (h : 20000 < s.size) : sealRes s = .tuple #[.string ⟨#[]⟩, .bool false] := by unfold sealRes; rw [if_neg (by omega)]

theorem Ps.sum_lt (s : ByteArray) : Ps.sm 4294967295 s.data.toList < 4294967296 := Ps.sm_lt _ _ (by decide)
end PartSealK
end Go.Proofs.YtdkenmpdgadcpaaDoor
