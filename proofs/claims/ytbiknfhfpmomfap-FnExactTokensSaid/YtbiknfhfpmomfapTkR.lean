/- Rows of tokens that are read. -/
import Derived.Test.YtbiknfhfpmomfapTkG
namespace Go.Proofs.Ytbiknfhfpmomfap
open Go.RowKit

theorem flat_get (ts : List Tk.Tok) : ∀ j, j < ts.length → (ts.flatMap tkc)[j * 2]? = some (.int .i64 ((ts.getD j Tk.no).kind : Int)) ∧ (ts.flatMap tkc)[j * 2 + 1]? = some (.string ⟨(ts.getD j Tk.no).text.toArray⟩) := by
  induction ts with
  | nil => intro j hj; simp at hj
  | cons t ts ih =>
    intro j hj
    cases j with
    | zero => exact ⟨rfl, rfl⟩
    | succ j =>
      obtain ⟨h1, h2⟩ := ih j (by simpa using hj)
      have e : (t :: ts).flatMap tkc = .int .i64 (t.kind : Int) :: .string ⟨t.text.toArray⟩ :: ts.flatMap tkc := rfl
      rw [e, show (j + 1) * 2 = j * 2 + 1 + 1 by omega, List.getElem?_cons_succ, List.getElem?_cons_succ, List.getElem?_cons_succ, List.getElem?_cons_succ]
      exact ⟨h1, h2⟩
theorem flat_len (ts : List Tk.Tok) : (ts.flatMap tkc).length = ts.length * 2 := by
  induction ts with
  | nil => rfl
  | cons t ts ih =>
    have e : (t :: ts).flatMap tkc = .int .i64 (t.kind : Int) :: .string ⟨t.text.toArray⟩ :: ts.flatMap tkc := rfl
    rw [e, List.length_cons, List.length_cons, ih, List.length_cons]
    omega
/-- A row of tokens that is read alone. -/
def TkAt (w : World) (v : Value) (ts : List Tk.Tok) : Prop := ∃ ad cap, v = .slice ad ts.length cap ∧ (0 < ts.length → ∃ g, ad = some ⟨g, 0, none⟩ ∧ g < w.heap.size ∧ ∀ j, j < ts.length → w.cell? ⟨g, j * 2, none⟩ = some (.int .i64 ((ts.getD j Tk.no).kind : Int)) ∧ w.cell? ⟨g, j * 2 + 1, none⟩ = some (.string ⟨(ts.getD j Tk.no).text.toArray⟩))
theorem TkAt.keep {w w' : World} {v : Value} {ts : List Tk.Tok} (h : TkAt w v ts) (hb : Below w.heap.size w w') : TkAt w' v ts := by
  obtain ⟨ad, cap, rfl, f⟩ := h
  refine ⟨ad, cap, rfl, fun h0 => ?_⟩
  obtain ⟨g, rfl, hg, hc⟩ := f h0
  exact ⟨g, rfl, Nat.lt_of_lt_of_le hg hb.size, fun j hj => ⟨(hb.cell (p := ⟨g, j * 2, none⟩) hg).trans (hc j hj).1, (hb.cell (p := ⟨g, j * 2 + 1, none⟩) hg).trans (hc j hj).2⟩⟩
theorem TkRow.at {B : Nat} {w : World} {v : Value} {ts : List Tk.Tok} (h : TkRow B w v ts) : TkAt w v ts := by
  obtain ⟨ad, cap, rfl⟩ := h.form
  refine ⟨ad, cap, rfl, fun h0 => ?_⟩
  rcases h.2 with ⟨_, hn⟩ | ⟨g, cap2, cur, e, h1, hg, _⟩
  · omega
  · simp only [Value.slice.injEq] at e
    obtain ⟨rfl, -, rfl⟩ := e
    refine ⟨g, rfl, (Array.getElem?_eq_some_iff.1 hg).1, fun j hj => ?_⟩
    obtain ⟨k1, k2⟩ := flat_get ts j hj
    rw [World.ownsRow.cellAt h (j * 2) (by omega), World.ownsRow.cellAt h (j * 2 + 1) (by omega)]
    exact ⟨k1, k2⟩
#print axioms TkRow.at
end Go.Proofs.Ytbiknfhfpmomfap
