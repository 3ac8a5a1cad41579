/- Rows of numbers that the call itself made. -/
import Derived.Test.YtehagonaacbmiaaGreatMPRjZaa
namespace Go.Proofs.YtehagonaacbmiaaGreat
open Go.RowKit

def zvp (z : Nat) : Value := .int .i64 (z : Int)
theorem infoZ : (Tryz.prog.info? 3).map (fun i => (i.zero, i.size, i.bytes)) = some (some (.int .i64 0), 1, 8) := by kernel_rfl
/-- The row of the numbers zs, in the call's own memory from block B on. -/
def ZRow (B : Nat) (w : World) (v : Value) (zs : List Nat) : Prop := w.ownsRow B 3 1 v zs.length (zs.map zvp)
theorem ZRow.made {B : Nat} (w : World) (hb : B ≤ w.heap.size) : ZRow B (w.alloc (.cells #[] 3)) (.slice (some ⟨w.heap.size, 0, none⟩) 0 0) [] := World.ownsRow_made w #[] 0 hb (by decide) rfl
theorem ZRow.keep {B : Nat} {w w' : World} {v : Value} {zs : List Nat} (h : ZRow B w v zs) (hb : Below w.heap.size w w') : ZRow B w' v zs := by
  refine ⟨h.1, ?_⟩
  rcases h.2 with hn | ⟨g, cap, cur, rfl, h1, hg, rest⟩
  · exact .inl hn
  · refine .inr ⟨g, cap, cur, rfl, h1, ?_, rest⟩
    rw [hb.block g (Array.getElem?_eq_some_iff.1 hg).1]
    exact hg
theorem ZRow.push {ops : Array Oper} {rest : List Oper} {o : Oper} {a : Act} {Q : Exit → Act → World → Prop} {B : Nat} {w : World} {v : Value} {zs : List Nat}
    (hown : ZRow B w v zs) (hgd : o.guard = none) (s x : Operand)
    (ho : o.op = .call { callee := .builtin .append, args := #[s, x], argTypes := #[97, 97] })
    (hs : a.eval s = v) (z : Int) (c : Nat) (hz : z = (c : Int)) (hx : a.eval x = .slice (some ⟨w.heap.size, 0, none⟩) 1 1)
    (hlen : zs.length < 1000000) (hB : B ≤ w.heap.size)
    (h : ∀ v' w', ZRow B w' v' (zs ++ [c]) → Below B w w' → wpList Tryz.prog ops Q rest (a.put o.dst v') w') :
    wpList Tryz.prog ops Q (o :: rest) a (w.alloc (.cells #[.int .i64 z] 3)) := by
  subst hz
  obtain ⟨i0, hi, hz0, hz1, hz2⟩ := info_parts infoZ
  refine wpList_append_own _ hgd s x 97 ho B 3 i0 (.int .i64 0) 1 8 Tryz.underlying97 hi hz0 hz1 hz2 rfl (by decide) v zs.length (zs.map zvp) hs (World.ownsRow.alloc hown _) ⟨w.heap.size, 0, none⟩ 1 1 [zvp c] hx rfl (cell_one_new _ _ _) ?_ ?_ ?_ ?_ ?_
  · intro u hu; simp at hu; subst hu; rfl
  · unfold maxLen; omega
  · omega
  · simp; omega
  · intro v' w' h2 h3 _
    refine h v' w' ?_ ?_
    · unfold ZRow; simpa using h2
    · exact ((Below.refl B w).alloc hB _).grown h3 (by simp; omega) (fun k hk => (hown.lt k hk).1)
theorem ZRow.form {B : Nat} {w : World} {v : Value} {zs : List Nat} (h : ZRow B w v zs) : ∃ ad cap, v = .slice ad zs.length cap ∧ (0 < zs.length → ∃ g, ad = some ⟨g, 0, none⟩ ∧ ∀ j, j < zs.length → w.cell? ⟨g, j, none⟩ = some (.int .i64 ((zs.getD j 0 : Nat) : Int))) := by
  rcases h.2 with ⟨rfl, hn⟩ | ⟨g, cap, cur, rfl, h1, hg, _⟩
  · refine ⟨none, 0, by rw [hn], fun h0 => by omega⟩
  · refine ⟨_, cap, rfl, fun _ => ⟨g, rfl, fun j hj => ?_⟩⟩
    rw [World.ownsRow.cellAt h j (by omega)]
    simp [hj, zvp]
end Go.Proofs.YtehagonaacbmiaaGreat
