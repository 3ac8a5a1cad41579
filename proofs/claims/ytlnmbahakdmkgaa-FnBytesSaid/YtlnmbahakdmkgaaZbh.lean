/- Plain facts: what the drawn patterns take, put together. The contract of the library's Clone, laid at this program: the same bytes, in memory of its own. -/
import Derived.Test.YtlnmbahakdmkgaaZbg
import Derived.Shelf.LaysM
import Derived.Shelf.Strconv.Clone
import Derived.Test.YtlnmbahakdmkgaaProg
import Derived.WalkKit
namespace Go.Proofs.Ytlnmbahakdmkgaa
section PartFnL
namespace En
theorem Reach.trans {ps : List Pi} {s : ByteArray} {k i j e : Nat} (h : Reach ps s k i j) (r : Reach ps s k j e) : Reach ps s k i e := by
  induction r with
  | here => exact h
  | step _ h2 ih => exact .step ih h2
theorem Reach.split {ps : List Pi} {s : ByteArray} {k i e : Nat} (r : Reach ps s k i e) : e = i ∨ ∃ j, Ends ps s k i j ∧ Reach ps s k j e := by
  induction r with
  | here => exact .inl rfl
  | step r h2 ih =>
    rcases ih with rfl | ⟨j, h, r2⟩
    · exact .inr ⟨_, h2, .here⟩
    · exact .inr ⟨j, h, .step r2 h2⟩
end En
/-- Again and again of a read pattern. -/
def Rm (p : List Pp.Pc) (s : ByteArray) (i j : Nat) : Prop := En.Reach (p.map tp) s (p.length - 1) i j
theorem Rm.iff {p : List Pp.Pc} {s : ByteArray} {i j : Nat} : Rm p s i j ↔ j = i ∨ ∃ u, Em p s i u ∧ Rm p s u j := by
  constructor
  · exact fun r => r.split
  · rintro (rfl | ⟨u, h, r⟩)
    · exact .here
    · exact En.Reach.head h r
theorem tp_at {r : List Pp.Pc} {k : Nat} {x : Pp.Pc} (h : r[k]? = some x) : (r.map tp).getD k Pi.no = tp x := by simp [h]

structure Two (op : Nat) (p q r : List Pp.Pc) : Prop where
  hr : Pp.right r = true
  hp : Pp.right p = true
  hq : Pp.right q = true
  w1 : Pp.within p r 0 = true
  w2 : Pp.within q r p.length = true
  len : r.length = p.length + q.length + 1
  top : r[p.length + q.length]? = some ⟨op, [], [p.length - 1, p.length + q.length - 1]⟩
  p0 : 0 < p.length
  q0 : 0 < q.length
structure Many (op : Nat) (p r : List Pp.Pc) : Prop where
  hr : Pp.right r = true
  hp : Pp.right p = true
  w1 : Pp.within p r 0 = true
  len : r.length = p.length + 1
  top : r[p.length]? = some ⟨op, [], [p.length - 1]⟩
  p0 : 0 < p.length
structure More (p r : List Pp.Pc) : Prop where
  hr : Pp.right r = true
  hp : Pp.right p = true
  w1 : Pp.within p r 0 = true
  w2 : Pp.within p r p.length = true
  len : r.length = p.length + p.length + 2
  star : r[p.length + p.length]? = some ⟨7, [], [p.length + p.length - 1]⟩
  top : r[p.length + p.length + 1]? = some ⟨5, [], [p.length - 1, p.length + p.length]⟩
  p0 : 0 < p.length

theorem oneT_of {a : List UInt8} (h : Pp.okOne a = true) : ∃ p, Pp.read a = some p ∧ Pp.right p = true ∧ 0 < p.length := by
  unfold Pp.okOne at h
  cases hp : Pp.read a with
  | none => rw [hp] at h; cases h
  | some p =>
    rw [hp] at h
    simp only [Bool.and_eq_true, decide_eq_true_eq] at h
    exact ⟨p, rfl, h.1, h.2⟩
theorem twoT_of {op : Nat} {a b t : List UInt8} (h : Pp.okTwo op a b t = true) : ∃ p q r, Pp.read a = some p ∧ Pp.read b = some q ∧ Pp.read t = some r ∧ Two op p q r := by
  unfold Pp.okTwo at h
  cases hp : Pp.read a with
  | none => rw [hp] at h; cases h
  | some p =>
    cases hq : Pp.read b with
    | none => rw [hp, hq] at h; cases h
    | some q =>
      cases ht : Pp.read t with
      | none => rw [hp, hq, ht] at h; cases h
      | some r =>
        rw [hp, hq, ht] at h
        simp only [Bool.and_eq_true, decide_eq_true_eq] at h
        obtain ⟨⟨⟨⟨⟨⟨⟨⟨h1, h2⟩, h3⟩, h4⟩, h5⟩, h6⟩, h7⟩, h8⟩, h9⟩ := h
        exact ⟨p, q, r, rfl, rfl, rfl, h1, h8, h9, h2, h3, h4, h5, h6, h7⟩
theorem manyT_of {op : Nat} {a t : List UInt8} (h : Pp.okMany op a t = true) : ∃ p r, Pp.read a = some p ∧ Pp.read t = some r ∧ Many op p r := by
  unfold Pp.okMany at h
  cases hp : Pp.read a with
  | none => rw [hp] at h; cases h
  | some p =>
    cases ht : Pp.read t with
    | none => rw [hp, ht] at h; cases h
    | some r =>
      rw [hp, ht] at h
      simp only [Bool.and_eq_true, decide_eq_true_eq] at h
      obtain ⟨⟨⟨⟨⟨h1, h2⟩, h3⟩, h4⟩, h5⟩, h6⟩ := h
      exact ⟨p, r, rfl, rfl, h1, h6, h2, h3, h4, h5⟩
theorem moreT_of {a : List UInt8} (h : Pp.okMore a = true) : ∃ p r, Pp.read a = some p ∧ Pp.read (Pp.moreText a) = some r ∧ More p r := by
  unfold Pp.okMore at h
  cases hp : Pp.read a with
  | none => rw [hp] at h; cases h
  | some p =>
    cases ht : Pp.read (Pp.moreText a) with
    | none => rw [hp, ht] at h; cases h
    | some r =>
      rw [hp, ht] at h
      simp only [Bool.and_eq_true, decide_eq_true_eq] at h
      obtain ⟨⟨⟨⟨⟨⟨⟨h1, h2⟩, h3⟩, h4⟩, h5⟩, h6⟩, h7⟩, h8⟩ := h
      exact ⟨p, r, rfl, rfl, h1, h8, h2, h3, h4, h5, h6, h7⟩

theorem Two.kids {op : Nat} {p q r : List Pp.Pc} (h : Two op p q r) (s : ByteArray) : ((r.map tp).getD (r.length - 1) Pi.no).op = (op : Int) ∧ (∀ i j, En.Ends (r.map tp) s (En.kid ((r.map tp).getD (r.length - 1) Pi.no) 0) i j ↔ Em p s i j) ∧ (∀ i j, En.Ends (r.map tp) s (En.kid ((r.map tp).getD (r.length - 1) Pi.no) 1) i j ↔ Em q s i j) := by
  have e : r.length - 1 = p.length + q.length := by have := h.len; omega
  have e2 : (r.map tp).getD (r.length - 1) Pi.no = tp ⟨op, [], [p.length - 1, p.length + q.length - 1]⟩ := by rw [e]; exact tp_at h.top
  have hp := h.p0
  have hq := h.q0
  rw [e2]
  refine ⟨rfl, fun i j => ?_, fun i j => ?_⟩
  · have := within_ends h.w1 h.hp s (p.length - 1) (by omega) i j
    exact this
  · have := within_ends h.w2 h.hq s (q.length - 1) (by omega) i j
    rw [show q.length - 1 + p.length = p.length + q.length - 1 by omega] at this
    exact this
theorem Many.kid {op : Nat} {p r : List Pp.Pc} (h : Many op p r) (s : ByteArray) : ((r.map tp).getD (r.length - 1) Pi.no).op = (op : Int) ∧ (∀ i j, En.Ends (r.map tp) s (En.kid ((r.map tp).getD (r.length - 1) Pi.no) 0) i j ↔ Em p s i j) := by
  have e : r.length - 1 = p.length := by have := h.len; omega
  have e2 : (r.map tp).getD (r.length - 1) Pi.no = tp ⟨op, [], [p.length - 1]⟩ := by rw [e]; exact tp_at h.top
  have hp := h.p0
  rw [e2]
  refine ⟨rfl, fun i j => ?_⟩
  exact within_ends h.w1 h.hp s (p.length - 1) (by omega) i j
theorem Two.alt {p q r : List Pp.Pc} (h : Two 6 p q r) {s : ByteArray} {i j : Nat} : Em r s i j ↔ Em p s i j ∨ Em q s i j := by
  obtain ⟨h1, h2, h3⟩ := h.kids s
  show En.Ends _ _ _ _ _ ↔ _
  rw [En.alt2 h1, h2, h3]
theorem Two.row {p q r : List Pp.Pc} (h : Two 5 p q r) {s : ByteArray} {i j : Nat} : Em r s i j ↔ ∃ u, Em p s i u ∧ Em q s u j := by
  obtain ⟨h1, h2, h3⟩ := h.kids s
  show En.Ends _ _ _ _ _ ↔ _
  rw [En.cat2 h1]
  simp only [h2, h3]
theorem Many.star {p r : List Pp.Pc} (h : Many 7 p r) {s : ByteArray} {i j : Nat} : Em r s i j ↔ Rm p s i j := by
  obtain ⟨h1, h2⟩ := h.kid s
  show En.Ends _ _ _ _ _ ↔ _
  rw [En.star_iff h1]
  exact ⟨En.Reach.map fun i j => (h2 i j).1, En.Reach.map fun i j => (h2 i j).2⟩
theorem Many.plus {p r : List Pp.Pc} (h : Many 8 p r) {s : ByteArray} {i j : Nat} : Em r s i j ↔ ∃ u, Em p s i u ∧ Rm p s u j := by
  obtain ⟨h1, h2⟩ := h.kid s
  show En.Ends _ _ _ _ _ ↔ _
  rw [En.plus_iff h1]
  constructor
  · rintro ⟨u, a, b⟩; exact ⟨u, (h2 _ _).1 a, b.map fun i j => (h2 i j).1⟩
  · rintro ⟨u, a, b⟩; exact ⟨u, (h2 _ _).2 a, En.Reach.map (fun i j => (h2 i j).2) b⟩
theorem Many.opt {p r : List Pp.Pc} (h : Many 9 p r) {s : ByteArray} {i j : Nat} : Em r s i j ↔ j = i ∨ Em p s i j := by
  obtain ⟨h1, h2⟩ := h.kid s
  show En.Ends _ _ _ _ _ ↔ _
  rw [En.opt2 h1, h2]
theorem More.more {p r : List Pp.Pc} (h : More p r) {s : ByteArray} {i j : Nat} : Em r s i j ↔ ∃ u, Em p s i u ∧ Rm p s u j := by
  have hp := h.p0
  have e : r.length - 1 = p.length + p.length + 1 := by have := h.len; omega
  have e1 : (r.map tp).getD (p.length + p.length + 1) Pi.no = tp ⟨5, [], [p.length - 1, p.length + p.length]⟩ := tp_at h.top
  have e2 : (r.map tp).getD (p.length + p.length) Pi.no = tp ⟨7, [], [p.length + p.length - 1]⟩ := tp_at h.star
  have k1 : ∀ i j, En.Ends (r.map tp) s (p.length - 1) i j ↔ Em p s i j := fun i j => within_ends h.w1 h.hp s (p.length - 1) (by omega) i j
  have k2 : ∀ i j, En.Ends (r.map tp) s (p.length + p.length - 1) i j ↔ Em p s i j := fun i j => by
    have := within_ends h.w2 h.hp s (p.length - 1) (by omega) i j
    rw [show p.length - 1 + p.length = p.length + p.length - 1 by omega] at this
    exact this
  have k3 : ∀ i j, En.Ends (r.map tp) s (p.length + p.length) i j ↔ Rm p s i j := fun i j => by
    rw [En.star_iff (by rw [e2]; rfl), e2]
    exact ⟨En.Reach.map fun i j => (k2 i j).1, En.Reach.map fun i j => (k2 i j).2⟩
  show En.Ends _ _ _ _ _ ↔ _
  rw [e, En.cat2 (by rw [e1]; rfl), e1]
  constructor
  · rintro ⟨u, a, b⟩; exact ⟨u, (k1 _ _).1 a, (k3 _ _).1 b⟩
  · rintro ⟨u, a, b⟩; exact ⟨u, (k1 _ _).2 a, (k3 _ _).2 b⟩
end PartFnL
section PartShelfC
open Go.Shelf
def Try.laysM316_ren : Go.Shelf.Ren := ⟨fun | 316 => 81 | n => n, fun | 9 => 9 | 3 => 3 | 4 => 4 | 37 => 34 | 0 => 0 | 127 => 128 | 5 => 5 | n => n, fun | n => n⟩
theorem Try.laysM316 : Go.Proofs.LaysM.n316 Try.prog Try.laysM316_ren := {
  mixed := by kernel_rfl
  f316 := Try.func81.trans (congrArg some (by kernel_rfl))
  t0 := Try.underlying0
  a0 := Try.isAgg0
  z0 := Try.sizeOf0
  v0 := Try.zeroValue0
  t3 := Try.underlying3
  a3 := Try.isAgg3
  z3 := Try.sizeOf3
  v3 := Try.zeroValue3
  t4 := Try.underlying4
  a4 := Try.isAgg4
  z4 := Try.sizeOf4
  v4 := Try.zeroValue4
  t9 := Try.underlying9
  a9 := Try.isAgg9
  z9 := Try.sizeOf9
  v9 := Try.zeroValue9
  t37 := Try.underlying34
  a37 := Try.isAgg34
  z37 := Try.sizeOf34
  v37 := Try.zeroValue34
  t127 := Try.underlying128
  a127 := Try.isAgg128
  z127 := Try.sizeOf128
  v127 := Try.zeroValue128
  t5 := Try.underlying5
  a5 := Try.isAgg5
  z5 := Try.sizeOf5
  v5 := Try.zeroValue5
  i0 := by kernel_rfl
  i3 := by kernel_rfl
  i4 := by kernel_rfl
  i5 := by kernel_rfl
  i9 := by kernel_rfl
  i37 := by kernel_rfl
  i127 := by kernel_rfl }
open Go.RowKit in
theorem Try.stringslite_Clone (s : ByteArray) (w : World) (hlim : s.size ≤ 281474976710656) :
    Calls Try.prog 81 #[.string s] w fun e w' => e = .returned (.string s) ∧ Below w.heap.size w w' := Any.stringslite_Clone Try.laysM316 s w hlim
open Go.RowKit in
set_option maxHeartbeats 400000 in
theorem clone_any (s : ByteArray) (w : World) (hs : s.size ≤ 281474976710656) :
    Calls Try.prog 73 #[.string s] w fun e w' => e = .returned (.string s) ∧ Below w.heap.size w w' := by
  go_enter Try.func73, Try.ntmps73
  go_wp2_with (go_at_call 81; refine (Try.stringslite_Clone s _ hs).mono ?_; rintro e w' ⟨rfl, hb⟩)
  go_ret
  exact ⟨rfl, hb⟩
end PartShelfC
end Go.Proofs.Ytlnmbahakdmkgaa
