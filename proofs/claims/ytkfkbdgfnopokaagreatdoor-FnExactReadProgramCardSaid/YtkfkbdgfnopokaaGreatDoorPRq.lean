/- At every text the program reads a program as the specification does, and its answer owns its memory; no conditions beyond what the row lists. -/
import Derived.Test.YtkfkbdgfnopokaaGreatDoorCards
import Derived.Test.YtkfkbdgfnopokaaGreatDoorTie
import Derived.Test.YtkfkbdgfnopokaaGreatDoorZba
import Derived.WalkKit
import Derived.ProofKit
import Derived.OpenShut
import Derived.ShutString
import Derived.ChangeOld
import Derived.Below
import Derived.OpenVars
import Derived.Deep.DeepHandedRow
import Derived.Lib.LaidTab
namespace Go.Proofs.YtkfkbdgfnopokaaGreatDoor
namespace fnExactReadProgram
open Go.ChangeShapes Go.WideShapes Go.ChangeAt Go.RowKit
open Go.ChangeMaps (open_string shut_string)

theorem laidOut : laidOutB Tryz.prog = true := by kernel_rfl
theorem own : ownKnob Tryz.prog.godebug = none := by kernel_rfl
theorem gName : Tryz.prog.globalNamed "loop.example/g00237/impl.twoSigns" = some 0 := by kernel_rfl
theorem gType : (Tryz.prog.globals[0]?).map (·.type) = some 136 := by kernel_rfl
theorem cellsT : Tryz.prog.cellsOf 136 = 7 := by kernel_rfl
theorem cellsE : Tryz.prog.cellsOf 9 = 1 := by kernel_rfl

/-- A row of seven texts that reads as given holds them, cell for cell. -/
theorem cells_of_texts {H : Type} {enc : TypeId × Value → H} {w : World} {base : Nat} {sp : Nat → Bool} {held : Bool} {fuel : Nat} {cs : List Value} {zs : List (List UInt8)} {p : List MemPlace}
    (h : DataW.trod enc Tryz.prog w base sp held fuel 136 cs = some (.agg (zs.map fun z => .lit (.string z)), p)) : cs = zs.map fun z => Value.string ⟨z.toArray⟩ := by
  cases fuel with
  | zero => simp [DataW.trod] at h
  | succ fuel =>
    simp only [DataW.trod, Tryz.underlying136, cellsE, cellsT, Nat.mul_one] at h
    split at h
    · rename_i hl
      obtain ⟨xs, hm, hx⟩ := Option.map_eq_some_iff.1 h
      have hxs : xs.map (·.1) = zs.map fun z => (DataW.lit (.string z) : DataW H) := by
        have := congrArg Prod.fst hx
        simpa using this
      have hxl : xs.length = 7 := by simpa using Lib.mapM_length hm
      have hzl : zs.length = 7 := by
        have := congrArg List.length hxs
        simp at this
        omega
      apply List.ext_getElem?
      intro i
      by_cases hi : i < 7
      · obtain ⟨b, hb, hf⟩ := Lib.mapM_at hm i i (by simp [hi])
        obtain ⟨s, hc, rfl, _⟩ := DataW.trod_string Tryz.underlying9 hf
        have h1 : cs[i]? = some (.string s) := by
          have := congrArg (·[0]?) hc
          simpa [List.getElem?_take, List.getElem?_drop] using this
        have h2 : (xs.map (·.1))[i]? = some (DataW.lit (.string s.data.toList) : DataW H) := by simp [hb]
        rw [hxs] at h2
        simp only [List.getElem?_map, Option.map_eq_some_iff, DataW.lit.injEq, Lit.string.injEq] at h2
        obtain ⟨z', hz', e⟩ := h2
        simp [h1, hz', e]
      · rw [List.getElem?_eq_none (by omega), List.getElem?_eq_none (by simp; omega)]
    · cases h

/-- What the row's list gives: the seven signs. -/
theorem signs {W : World} (h : laidMetH Tryz.prog Rows.fnExactReadProgramRow.laid W) : TwoS W := by
  obtain ⟨ps, ⟨gz, tz, cz, fz, pz, qz, hg, ht, hv, hd, _, _⟩, _⟩ := (show laidMet Tryz.prog Rows.fnExactReadProgramRow.laid W from h)
  obtain rfl := Option.some.inj (gName.symm.trans hg)
  obtain rfl := Option.some.inj (gType.symm.trans ht)
  have e : (Rows.laid_loop_example_g00237_impl_twoSigns : DataW Unit) = .agg ([[43], [45], [42], [37], [46], [60], [61, 61]].map fun z => .lit (.string z)) := by kernel_rfl
  rw [e] at hd
  have hc := cells_of_texts hd
  unfold World.var? at hv
  rw [gName] at hv
  simp only [Option.bind_some] at hv
  cases hh : W.heap[0]? with
  | none => rw [hh] at hv; cases hv
  | some o =>
    rw [hh] at hv
    cases o with
    | cells c t fr =>
      simp only [Option.some.injEq] at hv
      subst hv
      have hc2 : c = #[.string ⟨#[43]⟩, .string ⟨#[45]⟩, .string ⟨#[42]⟩, .string ⟨#[37]⟩, .string ⟨#[46]⟩, .string ⟨#[60]⟩, .string ⟨#[61, 61]⟩] := by
        apply Array.ext'
        rw [hc]
        rfl
      subst hc2
      refine ⟨?_, ?_, ?_, ?_, ?_, ?_, ?_⟩ <;> (unfold World.cell?; simp only [hh]; rfl)
    | _ => simp at hv
theorem gNameR : Tryz.prog.globalNamed "loop.example/g00237/impl.rowOps" = some 2 := by kernel_rfl
theorem gTypeR : (Tryz.prog.globals[2]?).map (·.type) = some 203 := by kernel_rfl
theorem cellsR : Tryz.prog.cellsOf 203 = 6 := by kernel_rfl
theorem cellsP : Tryz.prog.cellsOf 202 = 2 := by kernel_rfl
theorem cellsI : Tryz.prog.cellsOf 3 = 1 := by kernel_rfl
/-- Three pairs of numbers that read as given hold them, cell for cell. -/
theorem cells_of_pairs {H : Type} {enc : TypeId × Value → H} {w : World} {base : Nat} {sp : Nat → Bool} {held : Bool} {fuel : Nat} {cs : List Value} {p : List MemPlace} {a b c d e f : Int}
    (h : DataW.trod enc Tryz.prog w base sp held fuel 203 cs = some (.agg [.agg [.lit (.int .i64 a), .lit (.int .i64 b)], .agg [.lit (.int .i64 c), .lit (.int .i64 d)], .agg [.lit (.int .i64 e), .lit (.int .i64 f)]], p)) : cs = [.int .i64 a, .int .i64 b, .int .i64 c, .int .i64 d, .int .i64 e, .int .i64 f] := by
  cases fuel with
  | zero => simp [DataW.trod] at h
  | succ fuel =>
    simp only [DataW.trod, Tryz.underlying203, cellsP, cellsR] at h
    split at h
    · rename_i hl
      obtain ⟨xs, hm, hx⟩ := Option.map_eq_some_iff.1 h
      have hxs : xs.map (·.1) = [(.agg [.lit (.int .i64 a), .lit (.int .i64 b)] : DataW H), .agg [.lit (.int .i64 c), .lit (.int .i64 d)], .agg [.lit (.int .i64 e), .lit (.int .i64 f)]] := by
        have := congrArg Prod.fst hx
        simpa using this
      have key : ∀ i, i < 3 → ∀ u v : Int, (xs.map (·.1))[i]? = some (.agg [.lit (.int .i64 u), .lit (.int .i64 v)] : DataW H) → (cs.drop (i * 2)).take 2 = [.int .i64 u, .int .i64 v] := by
        intro i hi u v hu
        obtain ⟨q, hq, hf⟩ := Lib.mapM_at hm i i (by simp [hi])
        have h2 : (xs.map (·.1))[i]? = some q.1 := by simp [hq]
        rw [hu] at h2
        obtain ⟨q1, q2⟩ := q
        have h3 : q1 = .agg [.lit (.int .i64 u), .lit (.int .i64 v)] := (Option.some.inj h2).symm
        subst h3
        have h4 : DataW.trod enc Tryz.prog w base sp held fuel 202 ((cs.drop (i * 2)).take 2) = some (Lib.tabData .i64 [u, v], q2) := hf
        exact Lib.cells_of_tab Tryz.underlying202 Tryz.underlying3 cellsI cellsP h4
      have k0 := key 0 (by omega) a b (by rw [hxs]; rfl)
      have k1 := key 1 (by omega) c d (by rw [hxs]; rfl)
      have k2 := key 2 (by omega) e f (by rw [hxs]; rfl)
      match cs, k0, k1, k2, hl with
      | [x0, x1, x2, x3, x4, x5], k0, k1, k2, _ =>
        simp at k0 k1 k2
        obtain ⟨rfl, rfl⟩ := k0
        obtain ⟨rfl, rfl⟩ := k1
        obtain ⟨rfl, rfl⟩ := k2
        rfl
    · cases h
/-- What the row's list gives: the ops of each level. -/
theorem levels {W : World} (h : laidMetH Tryz.prog Rows.fnExactReadProgramRow.laid W) : RowO W := by
  obtain ⟨ps, ⟨gy, ty, cy, fy, py, qy, _, _, _, _, ⟨gz, tz, cz, fz, pz, qz, hg, ht, hv, hd, _, _⟩, _⟩, _⟩ := (show laidMet Tryz.prog Rows.fnExactReadProgramRow.laid W from h)
  obtain rfl := Option.some.inj (gNameR.symm.trans hg)
  obtain rfl := Option.some.inj (gTypeR.symm.trans ht)
  have hc := cells_of_pairs (show DataW.trod _ _ _ _ _ _ _ _ _ = some (.agg [.agg [.lit (.int .i64 13), .lit (.int .i64 13)], .agg [.lit (.int .i64 9), .lit (.int .i64 10)], .agg [.lit (.int .i64 11), .lit (.int .i64 12)]], _) from hd)
  unfold World.var? at hv
  rw [gNameR] at hv
  simp only [Option.bind_some] at hv
  cases hh : W.heap[2]? with
  | none => rw [hh] at hv; cases hv
  | some o =>
    rw [hh] at hv
    cases o with
    | cells c t fr =>
      simp only [Option.some.injEq] at hv
      subst hv
      have hc2 : c = #[.int .i64 13, .int .i64 13, .int .i64 9, .int .i64 10, .int .i64 11, .int .i64 12] := by
        apply Array.ext'
        rw [hc]
      subst hc2
      refine ⟨?_, ?_, ?_, ?_, ?_, ?_⟩ <;> (unfold World.cell?; simp only [hh]; rfl)
    | _ => simp at hv

set_option maxRecDepth 100000 in
/-- What the walk gives, for every argument and every world. -/
theorem contract (H : Type) (enc : TypeId × Value → H) (W : World) (base : Nat) (args : Array Value) (ds gs : List (DataW H)) (before : List MemPlace)
    (hval : ∀ (j : Nat) t v, Tryz.f3.params[j]? = some t → args[j]? = some v → Value.okWide Tryz.prog W .any base t v)
    (hW : DataW.Whole enc Tryz.prog Tryz.f3.params.toList Rows.fnExactReadProgramSpec.vars false W args.toList ds gs before) (hL : laidMetH Tryz.prog Rows.fnExactReadProgramRow.laid W) :
    Calls Tryz.prog 3 args W fun e W' => ∃ v, e = .returned v ∧ Rows.fnExactReadProgramSpec.post enc Tryz.prog Tryz.f3 false true false false W args v W' := by
  have hW' := hW
  obtain ⟨p, q, hA0, hV, rfl, hfz, hnd⟩ := hW
  have hA : DataW.TrodAll enc Tryz.prog W 0 (fun _ => true) true Tryz.f3.params.toList args.toList ds p := hA0
  rw [Tryz.params3] at hA hval
  obtain ⟨v0, vs0, d0, ds0, p0, q0, hargs, rfl, rfl, h0, r0⟩ := trodAll_cons hA
  obtain ⟨rfl, rfl, rfl⟩ := trodAll_nil r0
  obtain rfl : args = #[v0] := by cases args; simp_all
  obtain ⟨g1, g2, rfl⟩ : ∃ g1 g2, gs = [g1, g2] := by
    have hV2 : DataW.TrodVars enc Tryz.prog W (fun _ => true) ["loop.example/g00237/impl.rowOps", "loop.example/g00237/impl.twoSigns"] gs q := hV
    cases gs with
    | nil => exact hV2.elim
    | cons g r =>
      obtain ⟨_, _, _, _, _, _, _, _, _, _, hs, _⟩ := hV2
      cases r with
      | nil => exact hs.elim
      | cons a b =>
        obtain ⟨_, _, _, _, _, _, _, _, _, _, hs2, _⟩ := hs
        cases b with
        | nil => exact ⟨g, a, rfl⟩
        | cons c d => exact hs2.elim
  obtain ⟨a0, rfl, rfl, rfl, w0⟩ := open_string Tryz.underlying9 (hval 0 9 v0 rfl rfl) h0
  clear hA0
  refine (lawRead a0 W (signs hL) (levels hL) ⟨World.block_lt_of_cell? _ _ (signs hL).1, World.block_lt_of_cell? _ _ (levels hL).1⟩).mono fun e W' ⟨he, bel⟩ => ?_
  subst he
  exact ⟨_, rfl, _, _, _, [], _, q, hW', trodAll_mk1 (shut_bool Tryz.underlying4 _), (trodAll_cons_mk (shut_string Tryz.underlying9 w0) trodAll_mk0), bel.trodVars laidOut (by kernel_rfl) hV, bel.frame _, fun h => by cases h⟩

def leaf : DataW Unit → List Value
  | .lit (.string s) => [.string ⟨s.toArray⟩]
  | .agg [.lit (.int k a), .lit (.int j b)] => [.int k a, .int j b]
  | _ => []
def leaves : DataW Unit → List Value
  | .agg ds => ds.flatMap leaf
  | _ => []
def put (cs : List Value) : Obj → Obj
  | .cells _ t frozen => .cells cs.toArray t frozen
  | o => o
/-- A world for the witness: the listed tables hold what their initialisers lay. -/
def laidWorld (w : World) : World :=
  { w with heap := ((w.heap.modify 0 (put (leaves Rows.laid_loop_example_g00237_impl_twoSigns))).modify 2 (put (leaves Rows.laid_loop_example_g00237_impl_rowOps))) }
theorem laid_met (os : Os) : laidMet Tryz.prog Rows.fnExactReadProgramRow.laid ((laidWorld (World.holding Tryz.prog os ⟨#[], #[], []⟩)).forCall (fun _ _ => 0) ⟨#[], #[.string ⟨#[]⟩], []⟩).memory :=
  laidMet_of_run' 300 (by kernel_rfl) (by kernel_rfl)
theorem reads (os : Os) {H : Type} (enc : TypeId × Value → H) : ∃ places, DataW.whole enc Tryz.prog ((laidWorld (World.holding Tryz.prog os ⟨#[], #[], []⟩)).forCall (fun _ _ => 0) ⟨#[], #[.string ⟨#[]⟩], []⟩).memory Tryz.f3.params.toList Rows.fnExactReadProgramSpec.vars false #[Value.string ⟨#[]⟩].toList 8 = some ([.lit (.string [])], [Rows.laid_loop_example_g00237_impl_rowOps, Rows.laid_loop_example_g00237_impl_twoSigns], places) :=
  ⟨((DataW.whole enc Tryz.prog ((laidWorld (World.holding Tryz.prog os ⟨#[], #[], []⟩)).forCall (fun _ _ => 0) ⟨#[], #[.string ⟨#[]⟩], []⟩).memory Tryz.f3.params.toList Rows.fnExactReadProgramSpec.vars false #[Value.string ⟨#[]⟩].toList 8).map (·.2.2)).getD [], by kernel_rfl⟩

set_option maxRecDepth 100000 in
theorem lifted (os : Os) (started : os.Started) (H : Type) (enc : TypeId × Value → H) (F : Stop.Interp) :
    ReturnsInHanded {} Tryz.checked os 3 .any ((OpenSpec.ofChange Rows.fnExactReadProgramSpec).preRow enc Tryz.prog Tryz.f3 Rows.fnExactReadProgramRow.domain false Rows.fnExactReadProgramRow.laid) (((OpenSpec.ofChange Rows.fnExactReadProgramSpec).at F).post enc Tryz.prog Tryz.f3 false true false false) := by
  obtain ⟨places, hx⟩ := reads os enc
  refine returnsInHanded_of_row (C := Tryz.checked) (s := OpenSpec.ofChange Rows.fnExactReadProgramSpec) own started (by kernel_rfl) Tryz.func3
    (witness_row_at (enc := enc) (C := Tryz.checked) false (laidWorld (World.holding Tryz.prog os ⟨#[], #[], []⟩)) #[.string ⟨#[]⟩] rfl (by kernel_rfl) (by kernel_rfl) (by kernel_rfl)
      (OpenSpec.preRow_of_cond 8 hx (by kernel_rfl) (fun k hk => by cases hk) (by kernel_rfl) (laid_met os))) ?_
  intro W base args ds gs before hval hW _ _ _ hL _ _
  exact contract H enc W base args ds gs before hval hW hL

theorem said : Rows.FnExactReadProgramSaid :=
  OpenClaim.holds_of_cond 3 Tryz.f3 rfl rfl rfl rfl rfl rfl rfl ⟨rfl, rfl, rfl, rfl, rfl⟩ rfl rfl rfl rfl rfl (by kernel_rfl) Tryz.func3 (by kernel_rfl)
    (of_decide_eq_true (by kernel_rfl)) (by unfold Func.isWrapper; first | (rw [if_pos (by decide +kernel)]; kernel_rfl) | (rw [if_neg (by decide +kernel)]; exact ⟨rfl, rfl⟩))
    (fun os started H enc _ F => by rw [OpenClaim.pre_eq_preRow]; exact lifted os started H enc F)

/-- No parameter wants a stand-in; the program's own looks are off. -/
theorem plain (f : FuncId) (fn : Func) (hf : Tryz.pinned.checked.prog.funcNamed "loop.example/g00237/laws.FnExactReadProgram" = some f) (hfn : Tryz.pinned.checked.prog.funcs[f]? = some fn) :
    true = Tryz.pinned.checked.prog.looks [] ∧ ∀ (j : Nat) t, fn.params[j]? = some t → Tryz.pinned.checked.prog.wantsStandIn t = false := by
  obtain rfl : f = 3 := Option.some.inj ((show Tryz.prog.funcNamed "loop.example/g00237/laws.FnExactReadProgram" = some 3 by kernel_rfl).symm.trans hf) |>.symm
  obtain rfl : fn = Tryz.f3 := (Option.some.inj (Tryz.func3.symm.trans hfn)).symm
  refine ⟨by kernel_rfl, fun j t ht => ?_⟩
  rw [Tryz.params3] at ht
  obtain rfl : t = 9 := by simpa using Array.mem_of_getElem? ht
  exact (show Tryz.prog.wantsStandIn 9 = false by kernel_rfl)

theorem card : Rows.FnExactReadProgramCardSaid :=
  Claim7.holds_tied_plain_at .later [] _ _ _ _ said (fun _ h => by cases h) (by kernel_rfl) (fun _ h => by cases h) fnExactReadProgram_row_tie rfl ⟨rfl, rfl⟩ (by kernel_rfl) rfl plain (by kernel_rfl)
end fnExactReadProgram

theorem fnExactReadProgram_holds : Rows.FnExactReadProgramCardSaid := fnExactReadProgram.card
#print axioms fnExactReadProgram_holds
end Go.Proofs.YtkfkbdgfnopokaaGreatDoor
