/- Code in bytes: the specification of CodeText. Plain facts: what is read of the bytes of code. -/
import Derived.Test.YtbghghflepjdkaaCdH
import Derived.Test.YtbghghflepjdkaaZal
import Derived.Test.YtbghghflepjdkaaZak
namespace Go.Proofs.Ytbghghflepjdkaa
section PartCtA
open Go.RowKit

namespace Cd
def short (t : ByteArray) : List UInt8 := Pl.vb 8 t.size ++ t.data.toList
def two (x : Ins) : List UInt8 := [UInt8.ofNat x.op.toNat, UInt8.ofNat x.arg.toNat]
/-- The bytes of right code. -/
def bytes (ts : List ByteArray) (xs : List Ins) (ln en : Int) : List UInt8 :=
  Pl.vb 8 ts.length ++ ts.flatMap short ++ Pl.vb 8 xs.length ++ xs.flatMap two ++ Pl.vb 8 ln.toNat ++ Pl.vb 8 en.toNat
/-- What CodeText answers. -/
def text? (ts : List ByteArray) (xs : List Ins) (bg ln en : Int) : Value :=
  if ok ts xs bg ln en = true then .tuple #[.string ⟨(bytes ts xs ln en).toArray⟩, .bool true] else .tuple #[.string ⟨#[]⟩, .bool false]
theorem take_flat {α : Type} (f : α → List UInt8) (l : List α) (d : α) (k : Nat) (h : k < l.length) : (l.take (k + 1)).flatMap f = (l.take k).flatMap f ++ f (l.getD k d) := by
  rw [List.take_add_one, List.getElem?_eq_getElem h, List.flatMap_append]
  congr 1
  simp [h]
theorem flat_le {α : Type} (f : α → List UInt8) (m : Nat) : ∀ (l : List α), (∀ x ∈ l, (f x).length ≤ m) → (l.flatMap f).length ≤ m * l.length
  | [], _ => by simp
  | x :: l, h => by
    have h1 := h x (by simp)
    have h2 := flat_le f m l (fun y hy => h y (by simp [hy]))
    simp only [List.flatMap_cons, List.length_append, List.length_cons]
    rw [Nat.mul_add]
    omega
/-- What right code holds. -/
theorem ok_facts {ts : List ByteArray} {xs : List Ins} {bg ln en : Int} (h : ok ts xs bg ln en = true) :
    (∀ i, i < ts.length → (ts.getD i ByteArray.empty).size ≤ 30) ∧ ts.length ≤ 60 ∧ xs.length ≤ 250 ∧ bg = 0 ∧ (0 ≤ ln ∧ ln ≤ (xs.length : Int)) ∧ (ln ≤ en ∧ en ≤ (xs.length : Int)) ∧
    part ts xs 0 ln.toNat = true ∧ part ts xs ln.toNat en.toNat = true ∧ part ts xs en.toNat xs.length = true := by
  unfold ok at h
  simp only [Bool.and_eq_true, decide_eq_true_eq, List.all_eq_true] at h
  obtain ⟨h1, h2, h3, h4, h5, h6, h7, h8, h9⟩ := h
  refine ⟨fun i hi => ?_, h2, h3, h4, h5, h6, h7, h8, h9⟩
  rw [List.getD_eq_getElem?_getD, List.getElem?_eq_getElem hi]
  exact h1 _ (List.getElem_mem _)
theorem allI_at {ts : List ByteArray} {xs : List Ins} {to : Nat} : ∀ (f a : Nat), allI ts xs to f a = true → ∀ k, a ≤ k → k < a + f → ins ts (xs.getD k Ins.no) (k : Int) (to : Int) = true
  | 0, a, _, k, h1, h2 => by omega
  | f + 1, a, h, k, h1, h2 => by
    simp only [allI, Bool.and_eq_true] at h
    by_cases e : k = a
    · subst e; exact h.1
    · exact allI_at f (a + 1) h.2 k (by omega) (by omega)
theorem part_at {ts : List ByteArray} {xs : List Ins} {fr to : Nat} (hf : fr ≤ to) (h : part ts xs fr to = true) : ∀ k, fr ≤ k → k < to → ins ts (xs.getD k Ins.no) (k : Int) (to : Int) = true := by
  rw [part_same ts xs fr to hf] at h
  unfold partI at h
  simp only [Bool.and_eq_true] at h
  intro k h1 h2
  exact allI_at _ _ h.1 k h1 (by omega)
theorem ok_ins {ts : List ByteArray} {xs : List Ins} {bg ln en : Int} (h : ok ts xs bg ln en = true) (k : Nat) (hk : k < xs.length) : (0 ≤ (xs.getD k Ins.no).op ∧ (xs.getD k Ins.no).op ≤ 255) ∧ 0 ≤ (xs.getD k Ins.no).arg ∧ (xs.getD k Ins.no).arg ≤ 255 := by
  obtain ⟨_, _, _, _, h5, h6, h7, h8, h9⟩ := ok_facts h
  have key : ∃ to : Nat, ins ts (xs.getD k Ins.no) (k : Int) (to : Int) = true := by
    by_cases h1 : (k : Int) < ln
    · exact ⟨_, part_at (by omega) h7 k (by omega) (by omega)⟩
    · by_cases h2 : (k : Int) < en
      · exact ⟨_, part_at (by omega) h8 k (by omega) (by omega)⟩
      · exact ⟨_, part_at (by omega) h9 k (by omega) hk⟩
  obtain ⟨to, hi⟩ := key
  unfold ins at hi
  simp only [Bool.and_eq_true, decide_eq_true_eq] at hi
  omega
end Cd

set_option maxHeartbeats 1000000 in
set_option maxRecDepth 100000 in
theorem spShort7 (s : ByteArray) (w : World) (hs : s.size ≤ 20000) :
    Calls Try.prog 27 #[.string s] w fun e w' => e = .returned (.string ⟨(Cd.short s).toArray⟩) ∧ Below w.heap.size w w' := by
  have C : Hid (∀ W, Calls Try.prog 26 #[.int .i64 (s.size : Int)] W fun e w' => e = .returned (.string ⟨(Pl.vb 8 s.size).toArray⟩) ∧ Below W.heap.size W w') := fun W => l01Var_any s.size W (by omega)
  have hv := l01_bytes s.size
  have HS : Hid ((⟨(Pl.vb 8 s.size).toArray⟩ ++ s : ByteArray) = ⟨(Cd.short s).toArray⟩) := cat_list _ _
  generalize Pl.vb 8 s.size = V at *
  go_enter Try.func27, Try.ntmps27
  go_wp2_with (go_at_call 26; refine (C.out _).mono ?_; rintro e w2 ⟨rfl, hb2⟩)
  go_ret
  exact ⟨by rw [← HS.out]; rfl, hb2⟩
end PartCtA
section PartRcP
namespace Pl
/-- What is read is what its number is written as. -/
theorem rvF_bytes (f : Nat) (pre r : List UInt8) (n k : Nat) (hp : Goes pre) (hf : pre.length + f ≤ 9) (h : rvF f pre r = some (n, k)) : pre.length < k ∧ pre ++ r.take (k - pre.length) = vb 8 n := by
  induction f generalizing pre r with
  | zero => simp [rvF] at h
  | succ f ih =>
    cases r with
    | nil => simp [rvF] at h
    | cons b r =>
      by_cases hb : b.toNat < 128
      · by_cases h2 : (b.toNat = 0 ∧ 0 < pre.length) ∨ 1000000000 < val (pre ++ [b])
        · rw [rvF_bad f pre b r hb h2] at h; cases h
        · rw [rvF_end f pre b r hb h2] at h
          simp only [Option.some.injEq, Prod.mk.injEq] at h
          obtain ⟨rfl, rfl⟩ := h
          refine ⟨by omega, ?_⟩
          have := (vb_val 8 pre b hp hb (by omega)).2 (fun h => h2 (.inl h))
          rw [this, show pre.length + 1 - pre.length = 1 by omega]
          rfl
      · rw [rvF_on f pre b r (by omega)] at h
        obtain ⟨h1, h2⟩ := ih (pre ++ [b]) r (hp.snoc (by omega)) (by simp; omega) h
        simp only [List.length_append, List.length_singleton] at h1 h2
        refine ⟨by omega, ?_⟩
        rw [← h2, show k - pre.length = (k - (pre.length + 1)) + 1 by omega, List.take_succ_cons, List.append_assoc]
        rfl
end Pl

namespace Rc
/-- A number at a place, and the place behind it. -/
def rv (L : List UInt8) (a : Nat) : Option (Nat × Nat) := (Pl.rvF 5 [] (L.drop a)).map fun r => (r.1, a + r.2)
/-- A short text at a place. -/
def rs (L : List UInt8) (a : Nat) : Option (List UInt8 × Nat) :=
  match rv L a with
  | none => none
  | some (m, k) => if m ≤ 20000 ∧ k + m ≤ L.length then some ((L.drop k).take m, k + m) else none
/-- The first k texts from a on. -/
def txts (L : List UInt8) (a : Nat) : Nat → Option (List (List UInt8) × Nat)
  | 0 => some ([], a)
  | k + 1 => match txts L a k with
    | none => none
    | some (ts, b) => match rs L b with
      | none => none
      | some (t, c) => some (ts ++ [t], c)
/-- The first k instructions from a on. -/
def inss (L : List UInt8) (a : Nat) : Nat → Option (List Ins × Nat)
  | 0 => some ([], a)
  | k + 1 => match inss L a k with
    | none => none
    | some (xs, b) => if b + 2 ≤ L.length then some (xs ++ [⟨((L.getD b 0).toNat : Int), ((L.getD (b + 1) 0).toNat : Int)⟩], b + 2) else none

theorem rv_bytes {L : List UInt8} {a n k : Nat} (ha : a ≤ L.length) (h : rv L a = some (n, k)) : a < k ∧ k ≤ L.length ∧ L.take k = L.take a ++ Pl.vb 8 n ∧ n ≤ 1000000000 := by
  unfold rv at h
  obtain ⟨⟨n', j⟩, h1, h2⟩ := Option.map_eq_some_iff.1 h
  simp only [Prod.mk.injEq] at h2
  obtain ⟨rfl, rfl⟩ := h2
  obtain ⟨h3, h4⟩ := Pl.rvF_some _ _ _ _ _ h1
  obtain ⟨h5, h6⟩ := Pl.rvF_bytes 5 [] _ _ _ (fun _ h => by cases h) (by simp) h1
  simp only [List.length_nil, List.length_drop, Nat.zero_add, Nat.sub_zero, List.nil_append] at h4 h5 h6
  refine ⟨by omega, by omega, ?_, h3⟩
  rw [← h6, List.take_add]
theorem rs_bytes {L t : List UInt8} {a k : Nat} (ha : a ≤ L.length) (h : rs L a = some (t, k)) : a < k ∧ k ≤ L.length ∧ t.length ≤ 20000 ∧ L.take k = L.take a ++ (Pl.vb 8 t.length ++ t) := by
  unfold rs at h
  cases hr : rv L a with
  | none => rw [hr] at h; cases h
  | some r =>
    obtain ⟨m, j⟩ := r
    rw [hr] at h
    simp only at h
    split at h
    · rename_i hc
      simp only [Option.some.injEq, Prod.mk.injEq] at h
      obtain ⟨rfl, rfl⟩ := h
      obtain ⟨h1, h2, h3, h4⟩ := rv_bytes ha hr
      have hl : ((L.drop j).take m).length = m := by rw [List.length_take, List.length_drop]; omega
      refine ⟨by omega, by omega, by omega, ?_⟩
      rw [hl, List.take_add, h3, List.append_assoc]
    · cases h
theorem txts_bytes {L : List UInt8} {a : Nat} (ha : a ≤ L.length) : ∀ (k : Nat) {ts : List (List UInt8)} {b : Nat}, txts L a k = some (ts, b) → a ≤ b ∧ b ≤ L.length ∧ ts.length = k ∧ (∀ t ∈ ts, t.length ≤ 20000) ∧ L.take b = L.take a ++ ts.flatMap (fun t => Pl.vb 8 t.length ++ t)
  | 0, ts, b, h => by
    simp only [txts, Option.some.injEq, Prod.mk.injEq] at h
    obtain ⟨rfl, rfl⟩ := h
    exact ⟨Nat.le_refl _, ha, rfl, (fun t ht => by simp at ht), by simp⟩
  | k + 1, ts, b, h => by
    simp only [txts] at h
    cases hr : txts L a k with
    | none => rw [hr] at h; cases h
    | some r =>
      obtain ⟨ts1, b1⟩ := r
      rw [hr] at h
      simp only at h
      obtain ⟨h1, h2, h3, h4, h5⟩ := txts_bytes ha k hr
      cases hq : rs L b1 with
      | none => rw [hq] at h; cases h
      | some r2 =>
        obtain ⟨t, c⟩ := r2
        rw [hq] at h
        simp only [Option.some.injEq, Prod.mk.injEq] at h
        obtain ⟨rfl, rfl⟩ := h
        obtain ⟨g1, g2, g3, g4⟩ := rs_bytes h2 hq
        refine ⟨by omega, g2, by simp [h3], fun x hx => ?_, ?_⟩
        · simp only [List.mem_append, List.mem_singleton] at hx
          rcases hx with hx | rfl
          · exact h4 x hx
          · exact g3
        · rw [g4, h5, List.flatMap_append, List.append_assoc]
          simp
theorem inss_bytes {L : List UInt8} {a : Nat} (ha : a ≤ L.length) : ∀ (k : Nat) {xs : List Ins} {b : Nat}, inss L a k = some (xs, b) → a ≤ b ∧ b ≤ L.length ∧ xs.length = k ∧ L.take b = L.take a ++ xs.flatMap Cd.two
  | 0, xs, b, h => by
    simp only [inss, Option.some.injEq, Prod.mk.injEq] at h
    obtain ⟨rfl, rfl⟩ := h
    exact ⟨Nat.le_refl _, ha, rfl, by simp⟩
  | k + 1, xs, b, h => by
    simp only [inss] at h
    cases hr : inss L a k with
    | none => rw [hr] at h; cases h
    | some r =>
      obtain ⟨xs1, b1⟩ := r
      rw [hr] at h
      simp only at h
      obtain ⟨h1, h2, h3, h4⟩ := inss_bytes ha k hr
      split at h
      · rename_i hc
        simp only [Option.some.injEq, Prod.mk.injEq] at h
        obtain ⟨rfl, rfl⟩ := h
        refine ⟨by omega, by omega, by simp [h3], ?_⟩
        have e1 : b1 < L.length := by omega
        have e2 : b1 + 1 < L.length := by omega
        rw [List.take_add, h4, List.flatMap_append, List.append_assoc]
        have e3 : (L.drop b1).take 2 = [L[b1], L[b1 + 1]] := by
          rw [List.drop_eq_getElem_cons e1, List.take_succ_cons, List.drop_eq_getElem_cons e2, List.take_succ_cons, List.take_zero]
        rw [e3]
        simp [Cd.two, e1, e2]
      · cases h

/-- What ReadCode answers. -/
def ans (L : List UInt8) : Option (List ByteArray × List Ins × Nat × Nat) :=
  match rv L 0 with
  | none => none
  | some (n, a1) => if 60 < n then none else match txts L a1 n with
    | none => none
    | some (ts, a2) => match rv L a2 with
      | none => none
      | some (m, a3) => if 250 < m then none else match inss L a3 m with
        | none => none
        | some (xs, a4) => match rv L a4 with
          | none => none
          | some (l, a5) => match rv L a5 with
            | none => none
            | some (u, a6) => if a6 = L.length ∧ Cd.ok (ts.map fun t => ⟨t.toArray⟩) xs 0 (l : Int) (u : Int) = true then some (ts.map fun t => ⟨t.toArray⟩, xs, l, u) else none
/-- All is read: then the bytes are these, up to where it ends. -/
theorem run_bytes {L : List UInt8} {n a1 m a2 a3 l a4 u a5 a6 : Nat} {ts : List (List UInt8)} {xs : List Ins} (h1 : rv L 0 = some (n, a1)) (h2 : txts L a1 n = some (ts, a2)) (h3 : rv L a2 = some (m, a3)) (h4 : inss L a3 m = some (xs, a4)) (h5 : rv L a4 = some (l, a5)) (h6 : rv L a5 = some (u, a6)) :
    a6 ≤ L.length ∧ L.take a6 = Cd.bytes (ts.map fun t => ⟨t.toArray⟩) xs (l : Int) (u : Int) := by
  obtain ⟨_, b1, c1, _⟩ := rv_bytes (Nat.zero_le _) h1
  obtain ⟨_, b2, c2, _, d2⟩ := txts_bytes b1 n h2
  obtain ⟨_, b3, c3, _⟩ := rv_bytes b2 h3
  obtain ⟨_, b4, c4, d4⟩ := inss_bytes b3 m h4
  obtain ⟨_, b5, c5, _⟩ := rv_bytes b4 h5
  obtain ⟨_, b6, c6, _⟩ := rv_bytes b5 h6
  refine ⟨b6, ?_⟩
  unfold Cd.bytes
  rw [c6, c5, d4, c3, d2, c1, List.take_zero, List.nil_append, List.length_map, c2, c4, Int.toNat_natCast, Int.toNat_natCast]
  congr 4
  rw [List.flatMap_map]
  congr 1
/-- The whole text is read just where it is the code's bytes. -/
theorem run_whole {L : List UInt8} {n a1 m a2 a3 l a4 u a5 a6 : Nat} {ts : List (List UInt8)} {xs : List Ins} (h1 : rv L 0 = some (n, a1)) (h2 : txts L a1 n = some (ts, a2)) (h3 : rv L a2 = some (m, a3)) (h4 : inss L a3 m = some (xs, a4)) (h5 : rv L a4 = some (l, a5)) (h6 : rv L a5 = some (u, a6)) :
    a6 = L.length ↔ Cd.bytes (ts.map fun t => ⟨t.toArray⟩) xs (l : Int) (u : Int) = L := by
  obtain ⟨h7, h8⟩ := run_bytes h1 h2 h3 h4 h5 h6
  rw [← h8]
  constructor
  · rintro rfl; exact List.take_length
  · intro h
    have := congrArg List.length h
    rw [List.length_take] at this
    omega
end Rc
end PartRcP
end Go.Proofs.Ytbghghflepjdkaa
