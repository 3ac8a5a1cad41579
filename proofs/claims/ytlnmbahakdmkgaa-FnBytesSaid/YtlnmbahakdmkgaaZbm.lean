/- Plain facts: where patterns of one piece end. The law's own 'sameInts', of two rows of the same numbers; a text of one byte. -/
import Derived.Test.YtlnmbahakdmkgaaZae
import Derived.Test.YtlnmbahakdmkgaaZbd
import Derived.Test.YtlnmbahakdmkgaaZbl
import Derived.Lib.ConvBytes
namespace Go.Proofs.Ytlnmbahakdmkgaa
section PartFnT

theorem list_one {l : List Nat} (h : l.Pairwise (· < ·)) (a : Nat) (hm : ∀ j, j ∈ l ↔ j = a) : l = [a] := by
  cases l with
  | nil => exact absurd ((hm a).2 rfl) (by simp)
  | cons x t =>
    have hx : x = a := (hm x).1 (by simp)
    cases t with
    | nil => rw [hx]
    | cons y u =>
      have hy : y = a := (hm y).1 (by simp)
      have := (List.pairwise_cons.1 h).1 y (by simp)
      omega
theorem list_none {l : List Nat} (hm : ∀ j, j ∉ l) : l = [] := List.eq_nil_iff_forall_not_mem.2 hm
theorem el_sorted (p : List Pp.Pc) (s : ByteArray) (i : Nat) : (el p s i).Pairwise (· < ·) := En.list_sorted _ _ _ _
theorem em_one (pc : Pp.Pc) (s : ByteArray) (i j : Nat) (h : pc.op < 5 ∨ 9 < pc.op) : Em [pc] s i j ↔ EndsOne (tp pc) s i j := by
  show En.Ends _ _ _ _ _ ↔ _
  have e : ([pc].map tp).getD ([pc].length - 1) Pi.no = tp pc := rfl
  rw [ends_one _ _ _ _ _ (by
    rw [e]
    show ((pc.op : Nat) : Int) ≠ 5 ∧ ((pc.op : Nat) : Int) ≠ 6 ∧ ((pc.op : Nat) : Int) ≠ 7 ∧ ((pc.op : Nat) : Int) ≠ 8 ∧ ((pc.op : Nat) : Int) ≠ 9
    omega), e]
/-- Does a piece of one byte take this byte? -/
def Pp.tk (pc : Pp.Pc) (b : UInt8) : Bool := if pc.op = 2 then true else (decide (b ∈ pc.text)) == decide (pc.op ≠ 4)
theorem tk_takes (pc : Pp.Pc) (b : UInt8) : En.takes (tp pc) b = Pp.tk pc b := by
  unfold En.takes Pp.tk tp
  have e2 : ((pc.op : Nat) : Int) = 2 ↔ pc.op = 2 := by omega
  have e4 : ((pc.op : Nat) : Int) ≠ 4 ↔ pc.op ≠ 4 := by omega
  simp only [e2, e4]
theorem el_byte_in (pc : Pp.Pc) (s : ByteArray) (i : Nat) (h1 : 1 ≤ pc.op) (h4 : pc.op ≤ 4) (hi : i < s.size) (ht : Pp.tk pc s[i] = true) : el [pc] s i = [i + 1] := by
  refine list_one (el_sorted _ _ _) _ fun j => ?_
  rw [el_mem (by omega), em_one pc s i j (by omega)]
  unfold EndsOne
  have o : (tp pc).op = (pc.op : Int) := rfl
  rw [o]
  constructor
  · rintro (⟨-, -, h⟩ | ⟨h, -⟩ | ⟨h, -⟩ | ⟨h, -⟩) <;> omega
  · rintro rfl
    exact .inl ⟨by omega, ⟨hi, by rw [tk_takes]; exact ht⟩, rfl⟩
theorem el_byte_out (pc : Pp.Pc) (s : ByteArray) (i : Nat) (h1 : 1 ≤ pc.op) (h4 : pc.op ≤ 4) (hi : i ≤ s.size) (ht : ∀ h : i < s.size, Pp.tk pc s[i] = false) : el [pc] s i = [] := by
  refine list_none fun j => ?_
  rw [el_mem hi, em_one pc s i j (by omega)]
  unfold EndsOne
  have o : (tp pc).op = (pc.op : Int) := rfl
  rw [o]
  rintro (⟨-, ⟨h, k⟩, -⟩ | ⟨h, -⟩ | ⟨h, -⟩ | ⟨h, -⟩)
  · rw [tk_takes, ht h] at k; cases k
  · omega
  · omega
  · omega
theorem el_begin (s : ByteArray) : el [⟨10, [], []⟩] s 0 = [0] := by
  refine list_one (el_sorted _ _ _) _ fun j => ?_
  rw [el_mem (by omega), em_one _ s 0 j (by decide)]
  unfold EndsOne
  constructor
  · rintro (⟨h, -⟩ | ⟨-, -, h⟩ | ⟨h, -⟩ | ⟨h, -⟩)
    · exact absurd h (by decide)
    · exact h
    · exact absurd h (by decide)
    · exact absurd h (by decide)
  · rintro rfl
    exact .inr (.inl ⟨rfl, rfl, rfl⟩)
theorem el_begin1 (s : ByteArray) (h1 : 1 ≤ s.size) : el [⟨10, [], []⟩] s 1 = [] := by
  refine list_none fun j => ?_
  rw [el_mem h1, em_one _ s 1 j (by decide)]
  unfold EndsOne
  rintro (⟨h, -⟩ | ⟨-, h, -⟩ | ⟨h, -⟩ | ⟨h, -⟩)
  · exact absurd h (by decide)
  · exact absurd h (by decide)
  · exact absurd h (by decide)
  · exact absurd h (by decide)
theorem el_end (s : ByteArray) : el [⟨11, [], []⟩] s s.size = [s.size] := by
  refine list_one (el_sorted _ _ _) _ fun j => ?_
  rw [el_mem (Nat.le_refl _), em_one _ s _ j (by decide)]
  unfold EndsOne
  constructor
  · rintro (⟨h, -⟩ | ⟨h, -⟩ | ⟨-, -, h⟩ | ⟨h, -⟩)
    · exact absurd h (by decide)
    · exact absurd h (by decide)
    · exact h
    · exact absurd h (by decide)
  · rintro rfl
    exact .inr (.inr (.inl ⟨rfl, rfl, rfl⟩))
theorem rd_set : Pp.read [91, 97, 98, 99, 93] = some [⟨3, [97, 98, 99], []⟩] := by decide +kernel
theorem rd_not : Pp.read [91, 94, 97, 98, 99, 93] = some [⟨4, [97, 98, 99], []⟩] := by decide +kernel
theorem rd_any : Pp.read [46] = some [⟨2, [], []⟩] := by decide +kernel
theorem rd_begin : Pp.read [94] = some [⟨10, [], []⟩] := by decide +kernel
theorem rd_end : Pp.read [36] = some [⟨11, [], []⟩] := by decide +kernel
theorem rd_star : Pp.read [92, 42] = some [⟨1, [42], []⟩] := by decide +kernel
theorem rd_byte : ∀ k, k < 4 → Pp.read [UInt8.ofNat (97 + k)] = some [⟨1, [UInt8.ofNat (97 + k)], []⟩] := by decide +kernel
theorem rt_all : Pp.right [⟨3, [97, 98, 99], []⟩] = true ∧ Pp.right [⟨4, [97, 98, 99], []⟩] = true ∧ Pp.right [⟨2, [], []⟩] = true ∧ Pp.right [⟨10, [], []⟩] = true ∧ Pp.right [⟨11, [], []⟩] = true ∧ Pp.right [⟨1, [42], []⟩] = true := by decide +kernel
theorem rt_byte : ∀ k, k < 4 → Pp.right [⟨1, [UInt8.ofNat (97 + k)], []⟩] = true := by decide +kernel
theorem tk_six : ∀ k, k < 6 → Pp.tk ⟨3, [97, 98, 99], []⟩ (UInt8.ofNat (97 + k)) = decide (k < 3) ∧ Pp.tk ⟨4, [97, 98, 99], []⟩ (UInt8.ofNat (97 + k)) = !decide (k < 3) := by decide +kernel
end PartFnT
section PartFnV
open Go.RowKit

/-- The text of one byte, out of a new row. -/
theorem conv_one (c : UInt8) (w : World) : (convert 34 9 (.slice (some ⟨w.heap.size, 0, none⟩) 1 1)).run Try.prog (w.alloc (.cells #[.int .u8 (c.toNat : Int)] 5)) = .ok (.string ⟨#[c]⟩) (w.alloc (.cells #[.int .u8 (c.toNat : Int)] 5)) := by
  rw [run_convert_bytes_arg (P := Try.prog) _ 34 5 Try.underlying34 Try.underlying5 w.heap.size 0 1 1 [(c.toNat : Int)] (by simp) (fun j hj => by
    have : j = 0 := by omega
    subst this
    rw [blk_cell (heap_alloc_new w _)]
    rfl) 9 Try.underlying9]
  have e3 : strOfNums [(c.toNat : Int)] = ⟨#[c]⟩ := by
    unfold strOfNums
    congr 2
    simp
  rw [e3]
theorem LAt.lit (w : World) (x : Nat) : LAt (w.alloc (.cells #[.int .i64 (x : Int)] 3)) (.slice (some ⟨w.heap.size, 0, none⟩) 1 1) [x] := by
  refine ⟨_, 1, rfl, fun _ => ⟨w.heap.size, rfl, by simp, fun j hj => ?_⟩⟩
  have : j = 0 := by simpa using hj
  subst this
  rw [blk_cell (heap_alloc_new w _)]
  rfl

set_option maxHeartbeats 1000000 in
set_option maxRecDepth 100000 in
theorem sameInts_any (a b : Value) (l : List Nat) (w : World) (ha : LAt w a l) (hb : LAt w b l) (hl : l.length ≤ 1048577) :
    Calls Try.prog 17 #[a, b] w fun e w' => e = .returned (.bool true) ∧ Below w.heap.size w w' := by
  obtain ⟨aa, ac, rfl, fa⟩ := ha
  obtain ⟨ba, bc, rfl, fb⟩ := hb
  obtain ⟨n, hn⟩ : ∃ n, n = l.length := ⟨_, rfl⟩
  have FA : Hid (∀ j, j < n → ∃ g, aa = some ⟨g, 0, none⟩ ∧ g < w.heap.size ∧ w.cell? ⟨g, j, none⟩ = some (.int .i64 ((l.getD j 0 : Nat) : Int))) := by
    intro j hj
    obtain ⟨g, rfl, h1, h2⟩ := fa (by omega)
    exact ⟨g, rfl, h1, h2 j (by omega)⟩
  have FB : Hid (∀ j, j < n → ∃ g, ba = some ⟨g, 0, none⟩ ∧ g < w.heap.size ∧ w.cell? ⟨g, j, none⟩ = some (.int .i64 ((l.getD j 0 : Nat) : Int))) := by
    intro j hj
    obtain ⟨g, rfl, h1, h2⟩ := fb (by omega)
    exact ⟨g, rfl, h1, h2 j (by omega)⟩
  rw [← hn] at hl ⊢
  clear hn fa fb
  go_enter Try.func17, Try.ntmps17
  go_wp2
  go_loopw [5] (fun i wr => ∃ k : Nat, i = .int .i64 (k : Int) ∧ k ≤ n ∧ Below w.heap.size w wr) (fun i _ => n - (intOf i).toNat)
  case atStart => exact ⟨0, rfl, by omega, Below.refl _ _⟩
  case round =>
    obtain ⟨k, rfl, hk, hbel⟩ := hrel
    by_cases hlt : k < n
    · obtain ⟨g1, rfl, l1, e1⟩ := FA.out k hlt
      obtain ⟨g2, rfl, l2, e2⟩ := FB.out k hlt
      generalize l.getD k 0 = x at *
      have c1 : wr.cell? ⟨g1, k, none⟩ = some (.int .i64 (x : Int)) := (hbel.cell (by exact l1)).trans e1
      have c2 : wr.cell? ⟨g2, k, none⟩ = some (.int .i64 (x : Int)) := (hbel.cell (by exact l2)).trans e2
      have i1 : (k : Int) < (n : Int) := by omega
      clear e1 e2
      go_wp2_with fail
      go_quiet (fail)
      go_wp2
      go_roundw
      case rel => exact ⟨k + 1, by go_num, by omega, below_drewN hbel _⟩
      case measure => simp [intOf]; omega
    · go_wp2
      go_ret
      exact ⟨rfl, hbel⟩
end PartFnV
end Go.Proofs.Ytlnmbahakdmkgaa
