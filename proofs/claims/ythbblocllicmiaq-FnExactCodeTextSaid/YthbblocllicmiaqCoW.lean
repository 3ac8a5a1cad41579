/- The law's own copy of code, in short. -/
import Derived.Test.YthbblocllicmiaqZai
namespace Go.Proofs.Ythbblocllicmiaq
open Go.RowKit

theorem toCodeW (v rv : Value) (bg ln en : Int) (ts : List ByteArray) (xs : List Ins) (w : World) (h : TsAt w v ts) (hr : InsAt w rv xs) (hk : ts.length ≤ 1048576) (hkr : xs.length ≤ 1048576) :
    Calls Try.prog 8 #[.agg #[v, rv, .int .i64 bg, .int .i64 ln, .int .i64 en]] w fun e w' => ∃ s t, e = .returned (.agg #[.slice s ts.length ts.length, .slice t xs.length xs.length, .int .i64 bg, .int .i64 ln, .int .i64 en]) ∧ Below w.heap.size w w' ∧ TsAt w' (.slice s ts.length ts.length) ts ∧ InsAt w' (.slice t xs.length xs.length) xs := by
  refine (toCode_any v rv bg ln en ts xs w h hr hk hkr).mono ?_
  rintro e w' ⟨u, rfl, hb, g, g', rfl, -, -, h1, h2⟩
  exact ⟨_, _, rfl, hb, h1.at _, h2.at _⟩

#print axioms toCodeW
end Go.Proofs.Ythbblocllicmiaq
