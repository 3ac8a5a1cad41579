/- What DrawSay and DrawDump answer: some store of few things and some short text. -/
import Derived.Test.YtjohhledpjmffaaDAn
import Derived.Test.YtjohhledpjmffaaZas
namespace Go.Proofs.Ytjohhledpjmffaa
open Go.RowKit

def names4 : List (List UInt8) := [[116], [117], [116], [110, 111, 110, 101]]
theorem names4_len : ∀ t ∈ names4, t.length ≤ 42 := by decide
/-- A drawn store and a drawn text. -/
def Drawn2 (w w' : World) (e : Ending) : Prop := ∃ (ua : Option Addr) (uc : Nat) (xa : Option Addr) (xc : Nat) (vs : List Vr) (cs : List Cl) (o : ByteArray) (t : List UInt8), e = .returned (.tuple #[.agg #[.slice ua vs.length uc, .slice xa cs.length xc, .string o], .string ⟨t.toArray⟩]) ∧ VrAt w' (.slice ua vs.length uc) vs ∧ ClAt w' (.slice xa cs.length xc) cs ∧ Fw vs cs o ∧ t.length ≤ 42 ∧ Below w.heap.size w w'
set_option maxRecDepth 100000 in
theorem res_store {fn : Func} {p u : Tmp} (h : fn.results = #[.cell p 27, .tmp u]) (tmps : Array Value) (w : World) (g : Nat) (v0 v1 v2 : Value) (hp : tmps.getD p undef = .pointer (some ⟨g, 0, none⟩)) (hg : w.heap[g]? = some (.cells #[v0, v1, v2] 27 (0, 0))) :
    (results fn tmps).run Try.prog w = .ok (.tuple #[.agg #[v0, v1, v2], tmps.getD u undef]) w := by
  rw [results_cell_tmp h, hp]
  simp only [asAddr, Sem.run_pure, Result.andThen_ok, run_loadVar_row w g 27 27 #[v0, v1, v2] (0, 0) _ hg Try.underlying27 rfl (by kernel_rfl)]
set_option maxHeartbeats 1000000 in
set_option maxRecDepth 100000 in
theorem dSay_any (ad : Option Addr) (n cap : Nat) (w : World) (hn : n ≤ 1048576) (hc : Code w ad n) :
    Calls Try.prog 20 #[.slice ad n cap] w fun e w' => Drawn2 w w' e := by
  have hb0 : Below w.heap.size w (w.alloc (.cells #[.slice none 0 0, .slice none 0 0, .string ⟨#[]⟩] 27)) := (Below.refl _ _).alloc (Nat.le_refl _) _
  have q0 := heap_alloc_new w (.cells #[.slice none 0 0, .slice none 0 0, .string ⟨#[]⟩] 27)
  have C0 := hidOf8 (new_any ad n cap (w.alloc (.cells #[.slice none 0 0, .slice none 0 0, .string ⟨#[]⟩] 27)) hn (hc.keep hb0))
  have H0 := hidOf8 (And.intro hb0 q0)
  have hz0 : (w.alloc (.cells #[.slice none 0 0, .slice none 0 0, .string ⟨#[]⟩] 27)).heap.size = w.heap.size + 1 := by simp
  clear hb0 q0 hc
  go_enter Try.func20, Try.ntmps20
  go_wp2_with fail
  generalize w.alloc (.cells #[.slice none 0 0, .slice none 0 0, .string ⟨#[]⟩] 27) = W0 at *
  refine C0.out.mono ?_
  rintro e w1 ⟨rfl, d1, s1, b1⟩
  rw [hz0] at d1 s1
  have H1 := hidOf8 (And.intro (H0.out.1.trans (b1.mono H0.out.1.size)) ((b1.block _ (blk_lt H0.out.2)).trans H0.out.2))
  have C1 := hidOf8 (l03Val_any _ _ n cap ad w1 d1 (by omega))
  clear d1 C0
  rw [hz0]
  go_wp2_with fail
  refine C1.out.mono ?_
  rintro e w2 ⟨t, ht, rfl, d2, g2⟩
  have HT := hidOf8 ht
  clear ht C1
  have hB2 : w.heap.size + 1 + 1 ≤ w2.heap.size := by have := g2.size; omega
  have C3 := hidOf8 (l08Any_any _ _ n cap ad w2 d2 hB2)
  have hb2 : Below (w.heap.size + 1) w1 w2 := below_of_grown g2 (Nat.le_refl _) (by omega)
  have H2 := hidOf8 (And.intro (H1.out.1.trans (hb2.mono (by omega))) ((hb2.block _ (by omega)).trans H1.out.2))
  clear d2 g2 hb2 H1 b1 H0 s1
  go_wp2_with fail
  refine C3.out.mono ?_
  rintro e w3 ⟨u, x, vs, cs, o, rfl, hv, hx, hf, d3, g3⟩
  have hb3 : Below (w.heap.size + 1) w2 w3 := below_of_grown g3 (Nat.le_refl _) (by omega)
  have hsz : w.heap.size + 1 ≤ w3.heap.size := by have := g3.size; omega
  have H3 := hidOf8 (And.intro (H2.out.1.trans (hb3.mono (by omega))) (And.intro ((hb3.block _ (by omega)).trans H2.out.2) (And.intro hv (And.intro hx hf))))
  obtain ⟨ua, uc, rfl, -⟩ := hv
  obtain ⟨xa, xc, rfl, -⟩ := hx
  have r0 := (blk_cell H3.out.2.1 0).trans rfl
  have r1 := (blk_cell H3.out.2.1 1).trans rfl
  have r2 := (blk_cell H3.out.2.1 2).trans rfl
  have e0 := blk_free H3.out.2.1 0
  have e1 := blk_free H3.out.2.1 1
  have e2 := blk_free H3.out.2.1 2
  clear hb3 d3 g3 H2 C3 hf
  go_wp2_with fail
  refine bodyPost_ret (res_store rfl _ _ w.heap.size _ _ _ rfl (blk_set (blk_set (blk_set H3.out.2.1 0 _) 1 _) 2 _)) rfl ?_
  have e : ∀ k, k ≠ w.heap.size → (((w3.setCell ⟨w.heap.size, 0, none⟩ (.slice ua vs.length uc)).setCell ⟨w.heap.size, 1, none⟩ (.slice xa cs.length xc)).setCell ⟨w.heap.size, 2, none⟩ (.string o)).heap[k]? = w3.heap[k]? := fun k hk => by
    rw [Below.heap_setCell _ _ _ _ (by show k ≠ w.heap.size; exact hk), Below.heap_setCell _ _ _ _ (by show k ≠ w.heap.size; exact hk), Below.heap_setCell _ _ _ _ (by show k ≠ w.heap.size; exact hk)]
  refine ⟨ua, uc, xa, xc, vs, cs, o, t, rfl, (H3.out.2.2.1.keep (fun b h1 h2 => e b (by omega))).at, (H3.out.2.2.2.1.keep (fun b h1 h2 => e b (by omega))).at, H3.out.2.2.2.2, HT.out, ?_⟩
  exact ((H3.out.1.setCell (by show w.heap.size ≤ w.heap.size; omega) _).setCell (by show w.heap.size ≤ w.heap.size; omega) _).setCell (by show w.heap.size ≤ w.heap.size; omega) _
set_option maxHeartbeats 1000000 in
set_option maxRecDepth 100000 in
theorem dDump_any (ad : Option Addr) (n cap : Nat) (w : World) (hn : n ≤ 1048576) (hc : Code w ad n) :
    Calls Try.prog 22 #[.slice ad n cap] w fun e w' => Drawn2 w w' e := by
  have hb0 : Below w.heap.size w (w.alloc (.cells #[.slice none 0 0, .slice none 0 0, .string ⟨#[]⟩] 27)) := (Below.refl _ _).alloc (Nat.le_refl _) _
  have q0 := heap_alloc_new w (.cells #[.slice none 0 0, .slice none 0 0, .string ⟨#[]⟩] 27)
  have C0 := hidOf8 (new_any ad n cap (w.alloc (.cells #[.slice none 0 0, .slice none 0 0, .string ⟨#[]⟩] 27)) hn (hc.keep hb0))
  have H0 := hidOf8 (And.intro hb0 q0)
  have hz0 : (w.alloc (.cells #[.slice none 0 0, .slice none 0 0, .string ⟨#[]⟩] 27)).heap.size = w.heap.size + 1 := by simp
  clear hb0 q0 hc
  go_enter Try.func22, Try.ntmps22
  go_wp2_with fail
  generalize w.alloc (.cells #[.slice none 0 0, .slice none 0 0, .string ⟨#[]⟩] 27) = W0 at *
  refine C0.out.mono ?_
  rintro e w1 ⟨rfl, d1, s1, b1⟩
  rw [hz0] at d1 s1
  have H1 := hidOf8 (And.intro (H0.out.1.trans (b1.mono H0.out.1.size)) ((b1.block _ (blk_lt H0.out.2)).trans H0.out.2))
  have C1 : Hid (Calls Try.prog 54 #[.pointer (some ⟨w.heap.size + 1, 0, none⟩), .slice (some ⟨w.heap.size + 1 + 1, 0, none⟩) 4 4] (w1.alloc (.cells #[.string ⟨#[116]⟩, .string ⟨#[117]⟩, .string ⟨#[116]⟩, .string ⟨#[110, 111, 110, 101]⟩] 9))
      fun e w' => ∃ t : List UInt8, t ∈ names4 ∧ e = .returned (.string ⟨t.toArray⟩) ∧ Drw (w.heap.size + 1 + 1) w' (w.heap.size + 1) ad n cap ∧ w1.grownBy w' (some (w.heap.size + 1))) := by
    have := pickL_any _ _ n cap ad names4 w1 d1 (by omega) (by decide) (by decide)
    rw [s1] at this
    exact this
  clear d1 C0
  rw [hz0]
  go_wp2_with fail
  refine C1.out.mono ?_
  rintro e w2 ⟨t, ht, rfl, d2, g2⟩
  have HT := hidOf8 (names4_len t ht)
  clear ht C1
  have hB2 : w.heap.size + 1 + 1 ≤ w2.heap.size := by have := g2.size; omega
  have C3 := hidOf8 (l08Any_any _ _ n cap ad w2 d2 hB2)
  have hb2 : Below (w.heap.size + 1) w1 w2 := below_of_grown g2 (Nat.le_refl _) (by omega)
  have H2 := hidOf8 (And.intro (H1.out.1.trans (hb2.mono (by omega))) ((hb2.block _ (by omega)).trans H1.out.2))
  clear d2 g2 hb2 H1 b1 H0 s1
  go_wp2_with fail
  refine C3.out.mono ?_
  rintro e w3 ⟨u, x, vs, cs, o, rfl, hv, hx, hf, d3, g3⟩
  have hb3 : Below (w.heap.size + 1) w2 w3 := below_of_grown g3 (Nat.le_refl _) (by omega)
  have hsz : w.heap.size + 1 ≤ w3.heap.size := by have := g3.size; omega
  have H3 := hidOf8 (And.intro (H2.out.1.trans (hb3.mono (by omega))) (And.intro ((hb3.block _ (by omega)).trans H2.out.2) (And.intro hv (And.intro hx hf))))
  obtain ⟨ua, uc, rfl, -⟩ := hv
  obtain ⟨xa, xc, rfl, -⟩ := hx
  have r0 := (blk_cell H3.out.2.1 0).trans rfl
  have r1 := (blk_cell H3.out.2.1 1).trans rfl
  have r2 := (blk_cell H3.out.2.1 2).trans rfl
  have e0 := blk_free H3.out.2.1 0
  have e1 := blk_free H3.out.2.1 1
  have e2 := blk_free H3.out.2.1 2
  clear hb3 d3 g3 H2 C3 hf
  go_wp2_with fail
  refine bodyPost_ret (res_store rfl _ _ w.heap.size _ _ _ rfl (blk_set (blk_set (blk_set H3.out.2.1 0 _) 1 _) 2 _)) rfl ?_
  have e : ∀ k, k ≠ w.heap.size → (((w3.setCell ⟨w.heap.size, 0, none⟩ (.slice ua vs.length uc)).setCell ⟨w.heap.size, 1, none⟩ (.slice xa cs.length xc)).setCell ⟨w.heap.size, 2, none⟩ (.string o)).heap[k]? = w3.heap[k]? := fun k hk => by
    rw [Below.heap_setCell _ _ _ _ (by show k ≠ w.heap.size; exact hk), Below.heap_setCell _ _ _ _ (by show k ≠ w.heap.size; exact hk), Below.heap_setCell _ _ _ _ (by show k ≠ w.heap.size; exact hk)]
  refine ⟨ua, uc, xa, xc, vs, cs, o, t, rfl, (H3.out.2.2.1.keep (fun b h1 h2 => e b (by omega))).at, (H3.out.2.2.2.1.keep (fun b h1 h2 => e b (by omega))).at, H3.out.2.2.2.2, HT.out, ?_⟩
  exact ((H3.out.1.setCell (by show w.heap.size ≤ w.heap.size; omega) _).setCell (by show w.heap.size ≤ w.heap.size; omega) _).setCell (by show w.heap.size ≤ w.heap.size; omega) _
end Go.Proofs.Ytjohhledpjmffaa
