/- What ReadPattern of the specification answers, at every text. The specification of ProgramOk: a node's text. -/
import Derived.Test.YthbblocllicmiadZan
import Derived.Laws.ResultCell
import Derived.Laws.Rows
import Derived.Test.YthbblocllicmiadZai
namespace Go.Proofs.Ythbblocllicmiad
section PartRdK
open Go.RowKit

/-- What a reader answers: its pieces and true, or nothing and false. -/
def Answer (w' : World) (B : Nat) (R : Option (List Pp.Pc)) (e : Ending) : Prop :=
  match R with
  | none => e = .returned (.tuple #[.agg #[.slice none 0 0], .bool false])
  | some ps => ∃ v, e = .returned (.tuple #[.agg #[v], .bool true]) ∧ RP B w' v ps ∧ 0 < ps.length ∧ ps.length ≤ 60

set_option maxRecDepth 100000 in
theorem res_pat {fn : Func} {p u : Tmp} (h : fn.results = #[.cell p 54, .tmp u]) (tmps : Array Value) (w : World) (g : Nat) (v : Value) (hp : tmps.getD p undef = .pointer (some ⟨g, 0, none⟩)) (hg : w.heap[g]? = some (.cells #[v] 54 (0, 0))) :
    (results fn tmps).run Try.prog w = .ok (.tuple #[.agg #[v], tmps.getD u undef]) w := by
  rw [results_cell_tmp h, hp]
  simp only [asAddr, Sem.run_pure, Result.andThen_ok, run_loadVar_row w g 54 54 #[v] (0, 0) _ hg Try.underlying54 rfl (by kernel_rfl)]
theorem alloc2_1 (w : World) (A B : Obj) : ((w.alloc A).alloc B).heap[w.heap.size + 1]? = some B := by
  show ((w.heap.push A).push B)[w.heap.size + 1]? = some B
  rw [Array.getElem?_push]
  simp
theorem alloc2_0 (w : World) (A B : Obj) : ((w.alloc A).alloc B).heap[w.heap.size]? = some A := by
  show ((w.heap.push A).push B)[w.heap.size]? = some A
  rw [Array.getElem?_push, if_neg (by simp), Array.getElem?_push]
  simp
theorem RP.form {B : Nat} {w : World} {v : Value} {ps : List Pp.Pc} (h : RP B w v ps) : ∃ ad n c, v = .slice ad n c := by
  obtain ⟨_, cs, hp, _⟩ := h
  rcases hp.2 with ⟨rfl, _⟩ | ⟨g, cap, cur, rfl, _⟩
  · exact ⟨_, _, _, rfl⟩
  · exact ⟨_, _, _, rfl⟩
theorem RP.lower {B B' : Nat} {w : World} {v : Value} {ps : List Pp.Pc} (h : RP B w v ps) (hB : B' ≤ B) : RP B' w v ps := by
  obtain ⟨Q, cs, hp, hc, hm⟩ := h
  refine ⟨Q, cs, ?_, fun i hi => ?_, hm⟩
  · refine ⟨hp.1, ?_⟩
    rcases hp.2 with hn | ⟨g, cap, cur, rfl, h1, rest⟩
    · exact .inl hn
    · exact .inr ⟨g, cap, cur, rfl, by omega, rest⟩
  · obtain ⟨h1, h2, h3, h4⟩ := hc i hi
    refine ⟨h1, h2, h3, fun hne => ?_⟩
    obtain ⟨k1, k2, k3⟩ := h4 hne
    exact ⟨by omega, k2, k3⟩
theorem FB.below {g B C : Nat} {w w' : World} (h : FB g B w w') (hC : C ≤ B) (hg : C ≤ g) : Below C w w' := ⟨h.2.2.1, h.2.2.2.1, h.2.2.2.2, h.1, fun k hk => h.2.1 k (by omega) (by omega)⟩

end PartRdK
section PartPgD
open Go.RowKit

end PartPgD
end Go.Proofs.Ythbblocllicmiad
