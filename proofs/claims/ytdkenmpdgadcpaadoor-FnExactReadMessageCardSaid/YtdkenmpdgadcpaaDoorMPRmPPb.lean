/- Plain facts: how far the reader of a pattern goes, and how many pieces it tells. -/
import Derived.Test.YtdkenmpdgadcpaaDoorMPRmZae
namespace Go.Proofs.YtdkenmpdgadcpaaDoor
namespace Pp

/-- What each part reads, and how many pieces it makes of it. -/
structure Bd (l : List UInt8) (f : Nat) : Prop where
  thing : ∀ a out e o k, thing l f a out = some (e, o, k) → a < e ∧ e ≤ l.length ∧ o.length + 1 ≤ out.length + 2 * (e - a)
  more : ∀ a out j e o k, a ≤ l.length → more l f a out j = some (e, o, k) → a ≤ e ∧ e ≤ l.length ∧ o.length ≤ out.length + (e - a)
  many : ∀ a out e o k, many l f a out = some (e, o, k) → a < e ∧ e ≤ l.length ∧ o.length + 1 ≤ out.length + 2 * (e - a)
  rest : ∀ a out j e o k, a ≤ l.length → rest l f a out j = some (e, o, k) → a ≤ e ∧ e ≤ l.length ∧ o.length ≤ out.length + 2 * (e - a)
  row : ∀ a out e o k, a ≤ l.length → row l f a out = some (e, o, k) → a ≤ e ∧ e ≤ l.length ∧ o.length ≤ out.length + 2 * (e - a) + 1
  alts : ∀ a out j e o k, a ≤ l.length → alts l f a out j = some (e, o, k) → a ≤ e ∧ e ≤ l.length ∧ o.length ≤ out.length + 2 * (e - a)
  alt : ∀ a out e o k, a ≤ l.length → alt l f a out = some (e, o, k) → a ≤ e ∧ e ≤ l.length ∧ o.length ≤ out.length + 2 * (e - a) + 1

/-- Each part keeps the pieces that were there, and makes one at least. -/
structure Gr (l : List UInt8) (f : Nat) : Prop where
  thing : ∀ a out e o k, thing l f a out = some (e, o, k) → out.length < o.length
  more : ∀ a out j e o k, more l f a out j = some (e, o, k) → out.length ≤ o.length
  many : ∀ a out e o k, many l f a out = some (e, o, k) → out.length < o.length
  rest : ∀ a out j e o k, rest l f a out j = some (e, o, k) → out.length ≤ o.length
  row : ∀ a out e o k, row l f a out = some (e, o, k) → out.length < o.length
  alts : ∀ a out j e o k, alts l f a out j = some (e, o, k) → out.length ≤ o.length
  alt : ∀ a out e o k, alt l f a out = some (e, o, k) → out.length < o.length

end Pp
end Go.Proofs.YtdkenmpdgadcpaaDoor
