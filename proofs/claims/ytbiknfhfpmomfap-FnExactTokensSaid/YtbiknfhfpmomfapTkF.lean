/- The specification of Tokens: one token, whichever it is; rows of tokens. -/
import Derived.Test.YtbiknfhfpmomfapTkE
namespace Go.Proofs.Ytbiknfhfpmomfap
open Go.RowKit

theorem spOne_any (s : ByteArray) (a : Nat) (last : Tk.Tok) (w : World) (ha : a < s.size) (hs : s.size ≤ 1048576) :
    Calls Try.prog 9 #[.string s, .int .i64 (a : Int), tkv last] w fun e w' => e = .returned (onev (Tk.one s.data.toList a last)) ∧ Below w.heap.size w w' := by
  unfold Tk.one
  rw [lst_getD s a ha]
  by_cases h1 : s[a] = 10 ∨ s[a] = 59
  · rw [if_pos h1]
    exact spOne_end s a _ _ w ha hs h1
  rw [if_neg h1]
  have h10 : s[a] ≠ 10 := fun e => h1 (.inl e)
  have h59 : s[a] ≠ 59 := fun e => h1 (.inr e)
  by_cases h2 : Tk.letter s[a] = true
  · rw [if_pos h2]
    exact spOne_letter s a _ _ w ha hs h10 h59 h2
  rw [if_neg h2]
  have hn := Bool.eq_false_iff.2 h2
  by_cases h3 : Tk.figure s[a] = true
  · rw [if_pos h3]
    exact spOne_figure s a _ _ w ha hs h10 h59 hn h3
  rw [if_neg h3]
  by_cases h4 : s[a] = 34
  · rw [if_pos h4]
    exact spOne_text s a _ _ w ha hs h4
  rw [if_neg h4]
  by_cases h5 : s[a] = 47
  · rw [if_pos h5]
    exact spOne_pat s a _ _ w ha hs h5
  rw [if_neg h5]
  exact spOne_sign s a _ _ w ha hs h10 h59 hn (Bool.eq_false_iff.2 h3) h4 h5

/-- The cells of a token. -/
def tkc (t : Tk.Tok) : List Value := [.int .i64 (t.kind : Int), .string ⟨t.text.toArray⟩]
theorem infoTk : (Try.prog.info? 29).map (fun i => (i.zero, i.size, i.bytes)) = some (some (.agg #[.int .i64 0, .string ByteArray.empty]), 2, 24) := by kernel_rfl
/-- The row of the tokens ts, in memory of the call's own from block B on. -/
def TkRow (B : Nat) (w : World) (v : Value) (ts : List Tk.Tok) : Prop := w.ownsRow B 29 2 v ts.length (ts.flatMap tkc)
theorem TkRow.made {B : Nat} (w : World) (hb : B ≤ w.heap.size) : TkRow B (w.alloc (.cells #[] 29)) (.slice (some ⟨w.heap.size, 0, none⟩) 0 0) [] := World.ownsRow_made w #[] 0 hb (by decide) rfl
theorem TkRow.alloc {B : Nat} {w : World} {v : Value} {ts : List Tk.Tok} (h : TkRow B w v ts) (o : Obj) : TkRow B (w.alloc o) v ts := World.ownsRow.alloc h o
theorem TkRow.keep {B : Nat} {w w' : World} {v : Value} {ts : List Tk.Tok} (h : TkRow B w v ts) (hb : Below w.heap.size w w') : TkRow B w' v ts := by
  refine ⟨h.1, ?_⟩
  rcases h.2 with hn | ⟨g, cap, cur, rfl, h1, hg, rest⟩
  · exact .inl hn
  · refine .inr ⟨g, cap, cur, rfl, h1, ?_, rest⟩
    rw [hb.block g (Array.getElem?_eq_some_iff.1 hg).1]
    exact hg
theorem TkRow.form {B : Nat} {w : World} {v : Value} {ts : List Tk.Tok} (h : TkRow B w v ts) : ∃ ad cap, v = .slice ad ts.length cap := by
  rcases h.2 with ⟨rfl, hn⟩ | ⟨g, cap, cur, rfl, _⟩
  · exact ⟨none, 0, by rw [hn]⟩
  · exact ⟨_, cap, rfl⟩
#print axioms spOne_any
end Go.Proofs.Ytbiknfhfpmomfap
