/- Plain facts: where a piece of a pattern may end. -/
import Derived.Test.YtlnmbahakdmkgaaPtD
namespace Go.Proofs.Ytlnmbahakdmkgaa
namespace En

/-- Does a piece take this byte? -/
def takes (p : Pi) (b : UInt8) : Bool := if p.op = 2 then true else (decide (b ∈ p.text.data.toList)) == decide (p.op ≠ 4)
def kid (p : Pi) (i : Nat) : Nat := (p.kids.getD i 0).toNat

/-- Piece k of ps, taken from place i of s on, may end at j. -/
inductive Ends (ps : List Pi) (s : ByteArray) : Nat → Nat → Nat → Prop
  | one {k i : Nat} (h : i < s.size) (hop : (ps.getD k Pi.no).op = 1 ∨ (ps.getD k Pi.no).op = 2 ∨ (ps.getD k Pi.no).op = 3 ∨ (ps.getD k Pi.no).op = 4) (ht : takes (ps.getD k Pi.no) s[i] = true) : Ends ps s k i (i + 1)
  | begin {k i : Nat} (hop : (ps.getD k Pi.no).op = 10) (h : i = 0) : Ends ps s k i i
  | fin {k i : Nat} (hop : (ps.getD k Pi.no).op = 11) (h : i = s.size) : Ends ps s k i i
  | none {k i : Nat} (hop : (ps.getD k Pi.no).op = 12) : Ends ps s k i i
  | cat {k i j e : Nat} (hop : (ps.getD k Pi.no).op = 5) (h1 : Ends ps s (kid (ps.getD k Pi.no) 0) i j) (h2 : Ends ps s (kid (ps.getD k Pi.no) 1) j e) : Ends ps s k i e
  | altl {k i e : Nat} (hop : (ps.getD k Pi.no).op = 6) (h1 : Ends ps s (kid (ps.getD k Pi.no) 0) i e) : Ends ps s k i e
  | altr {k i e : Nat} (hop : (ps.getD k Pi.no).op = 6) (h1 : Ends ps s (kid (ps.getD k Pi.no) 1) i e) : Ends ps s k i e
  | opt0 {k i : Nat} (hop : (ps.getD k Pi.no).op = 9) : Ends ps s k i i
  | opt1 {k i e : Nat} (hop : (ps.getD k Pi.no).op = 9) (h1 : Ends ps s (kid (ps.getD k Pi.no) 0) i e) : Ends ps s k i e
  | star0 {k i : Nat} (hop : (ps.getD k Pi.no).op = 7) : Ends ps s k i i
  | star1 {k i j e : Nat} (hop : (ps.getD k Pi.no).op = 7) (h1 : Ends ps s (kid (ps.getD k Pi.no) 0) i j) (h2 : Ends ps s k j e) : Ends ps s k i e
  | plus0 {k i e : Nat} (hop : (ps.getD k Pi.no).op = 8) (h1 : Ends ps s (kid (ps.getD k Pi.no) 0) i e) : Ends ps s k i e
  | plus1 {k i j e : Nat} (hop : (ps.getD k Pi.no).op = 8) (h1 : Ends ps s (kid (ps.getD k Pi.no) 0) i j) (h2 : Ends ps s k j e) : Ends ps s k i e

/-- Again and again: from i on, by steps of piece k, none at least. -/
inductive Reach (ps : List Pi) (s : ByteArray) (k : Nat) : Nat → Nat → Prop
  | here {i : Nat} : Reach ps s k i i
  | step {i j e : Nat} (h1 : Reach ps s k i j) (h2 : Ends ps s k j e) : Reach ps s k i e

theorem Reach.head {ps : List Pi} {s : ByteArray} {k i j e : Nat} (h : Ends ps s k i j) (r : Reach ps s k j e) : Reach ps s k i e := by
  induction r with
  | here => exact .step .here h
  | step _ h2 ih => exact .step ih h2

theorem star_of {ps : List Pi} {s : ByteArray} {k i e : Nat} (hop : (ps.getD k Pi.no).op = 7) (r : Reach ps s (kid (ps.getD k Pi.no) 0) i e) : Ends ps s k i e := by
  have key : ∀ i e, Reach ps s (kid (ps.getD k Pi.no) 0) i e → ∀ f, Ends ps s k e f → Ends ps s k i f := by
    intro i e r
    induction r with
    | here => exact fun f h => h
    | step _ h2 ih => exact fun f h => ih f (.star1 hop h2 h)
  exact key i e r e (.star0 hop)
theorem plus_of {ps : List Pi} {s : ByteArray} {k i j e : Nat} (hop : (ps.getD k Pi.no).op = 8) (h : Ends ps s (kid (ps.getD k Pi.no) 0) i j) (r : Reach ps s (kid (ps.getD k Pi.no) 0) j e) : Ends ps s k i e := by
  have key : ∀ j e, Reach ps s (kid (ps.getD k Pi.no) 0) j e → ∀ i, Ends ps s (kid (ps.getD k Pi.no) 0) i j → Reach ps s (kid (ps.getD k Pi.no) 0) i e := fun j e r i h => Reach.head h r
  have key2 : ∀ i e, Reach ps s (kid (ps.getD k Pi.no) 0) i e → ∀ f, Ends ps s (kid (ps.getD k Pi.no) 0) e f → Ends ps s k i f := by
    intro i e r
    induction r with
    | here => exact fun f h => .plus0 hop h
    | step r1 h2 ih =>
      intro f hf
      have h3 := ih _ h2
      have : ∀ i e, Ends ps s k i e → (ps.getD k Pi.no).op = 8 → Ends ps s (kid (ps.getD k Pi.no) 0) e f → Ends ps s k i f := by
        intro i e hh
        generalize hk : k = k' at hh
        induction hh with
        | plus0 hop2 h1 => subst hk; exact fun _ hf => .plus1 hop2 h1 (.plus0 hop2 hf)
        | plus1 hop2 h1 _ _ ih2 => subst hk; exact fun ho hf => .plus1 hop2 h1 (ih2 rfl ho hf)
        | one h ho ht => subst hk; exact fun h8 _ => absurd h8 (by omega)
        | begin ho => subst hk; exact fun h8 _ => absurd h8 (by omega)
        | fin ho => subst hk; exact fun h8 _ => absurd h8 (by omega)
        | none ho => subst hk; exact fun h8 _ => absurd h8 (by omega)
        | cat ho => subst hk; exact fun h8 _ => absurd h8 (by omega)
        | altl ho => subst hk; exact fun h8 _ => absurd h8 (by omega)
        | altr ho => subst hk; exact fun h8 _ => absurd h8 (by omega)
        | opt0 ho => subst hk; exact fun h8 _ => absurd h8 (by omega)
        | opt1 ho => subst hk; exact fun h8 _ => absurd h8 (by omega)
        | star0 ho => subst hk; exact fun h8 _ => absurd h8 (by omega)
        | star1 ho => subst hk; exact fun h8 _ => absurd h8 (by omega)
      exact this _ _ h3 hop hf
  cases key j e r i h with
  | here => cases r with
    | here => exact .plus0 hop h
    | step r1 h2 => exact key2 _ _ (Reach.head h r1) _ h2
  | step r1 h2 => exact key2 _ _ r1 _ h2

/-- What a star takes is what is reached, and the other way round. -/
theorem star_iff {ps : List Pi} {s : ByteArray} {k i e : Nat} (hop : (ps.getD k Pi.no).op = 7) : Ends ps s k i e ↔ Reach ps s (kid (ps.getD k Pi.no) 0) i e := by
  refine ⟨fun h => ?_, star_of hop⟩
  generalize hk : k = k' at h
  induction h with
  | star0 _ => exact .here
  | star1 ho h1 _ _ ih2 => subst hk; exact Reach.head h1 (ih2 rfl)
  | one h ho ht => subst hk; omega
  | begin ho => subst hk; omega
  | fin ho => subst hk; omega
  | none ho => subst hk; omega
  | cat ho => subst hk; omega
  | altl ho => subst hk; omega
  | altr ho => subst hk; omega
  | opt0 ho => subst hk; omega
  | opt1 ho => subst hk; omega
  | plus0 ho => subst hk; omega
  | plus1 ho => subst hk; omega
theorem plus_iff {ps : List Pi} {s : ByteArray} {k i e : Nat} (hop : (ps.getD k Pi.no).op = 8) : Ends ps s k i e ↔ ∃ j, Ends ps s (kid (ps.getD k Pi.no) 0) i j ∧ Reach ps s (kid (ps.getD k Pi.no) 0) j e := by
  refine ⟨fun h => ?_, fun ⟨j, h, r⟩ => plus_of hop h r⟩
  generalize hk : k = k' at h
  induction h with
  | plus0 ho h1 => subst hk; exact ⟨_, h1, .here⟩
  | plus1 ho h1 _ _ ih2 => subst hk; obtain ⟨j, h2, r⟩ := ih2 rfl; exact ⟨_, h1, Reach.head h2 r⟩
  | star0 ho => subst hk; omega
  | star1 ho => subst hk; omega
  | one h ho ht => subst hk; omega
  | begin ho => subst hk; omega
  | fin ho => subst hk; omega
  | none ho => subst hk; omega
  | cat ho => subst hk; omega
  | altl ho => subst hk; omega
  | altr ho => subst hk; omega
  | opt0 ho => subst hk; omega
  | opt1 ho => subst hk; omega

/-- What is taken ends behind where it began, and within the text. -/
theorem Ends.le {ps : List Pi} {s : ByteArray} {k i e : Nat} (h : Ends ps s k i e) : i ≤ e ∧ (i ≤ s.size → e ≤ s.size) := by
  induction h with
  | one h => omega
  | begin => omega
  | fin => omega
  | none => omega
  | cat _ _ _ i1 i2 => omega
  | altl _ _ i1 => omega
  | altr _ _ i1 => omega
  | opt0 => omega
  | opt1 _ _ i1 => omega
  | star0 => omega
  | star1 _ _ _ i1 i2 => omega
  | plus0 _ _ i1 => omega
  | plus1 _ _ _ i1 i2 => omega
end En
end Go.Proofs.Ytlnmbahakdmkgaa
