/- Trees: texts of a row of trees, with a text between. -/
import Derived.Test.YtknojhmnadmilaaGreatDoorTrA
import Derived.Test.YtknojhmnadmilaaGreatDoorKS
import Derived.Test.YtknojhmnadmilaaGreatDoorShelfJ
import Derived.Laws.MakeOwn
namespace Go.Proofs.YtknojhmnadmilaaGreatDoor
open Go.RowKit

/-- A tree, as a value. -/
def tv (k : TypeId × Value) : Value := .iface k.1 k.2
def tno : TypeId × Value := (0, .nilIface)
/-- The slice v leads to the trees ks. -/
def TreesAt (X : Nat) (w : World) (v : Value) (ks : List (TypeId × Value)) : Prop := ∃ (a : Option Addr) (c : Nat), v = .slice a ks.length c ∧
  (0 < ks.length → ∃ b o, a = some ⟨b, o, none⟩ ∧ b ≠ X ∧ b < w.heap.size ∧ ∀ i, i < ks.length → w.cell? ⟨b, o + i, none⟩ = some (tv (ks.getD i tno)))
theorem TreesAt.keep {X : Nat} {w w' : World} {v : Value} {ks : List (TypeId × Value)} (h : TreesAt X w v ks) (hb : But X w w') : TreesAt X w' v ks := by
  obtain ⟨ka, kc, rfl, f⟩ := h
  refine ⟨ka, kc, rfl, fun h0 => ?_⟩
  obtain ⟨b, o, rfl, hX, hl, hc⟩ := f h0
  exact ⟨b, o, rfl, hX, Nat.lt_of_lt_of_le hl hb.1, fun i hi => hb.cell hX (hc i hi)⟩

theorem makeS_run (n : Nat) (h : n ≤ 1000000000) : ∃ M : Array Value, M.size = n ∧ ∀ W : World, (Instr.makeSlice 69 (.int .i64 0) (.int .i64 (n : Int))).run Tryz.prog W = .ok (.slice (some ⟨W.heap.size, 0, none⟩) 0 n) (W.alloc (.cells M 9)) := by
  obtain ⟨i0, hi, hz0, hz1, hz2⟩ := info_parts Tryz.infoS
  refine ⟨madeCells (Value.string ByteArray.empty).cells (((n : Nat) : Int).toNat * i0.size), ?_, fun W => ?_⟩
  · rw [size_madeCells, hz1]; simp
  · have h := run_make (P := Tryz.prog) W 69 9 i0 _ Tryz.underlying69 hi hz0 .i64 .i64 0 (n : Int) (by omega) (by omega) (by rw [hz2]; omega) (by omega)
    simpa using h

theorem join_row (es : List (List UInt8)) (sp : ByteArray) (w : World) (v : Value) {B : Nat} (h : SRow B w v es) (hn : es.length ≤ 1000000) (hl : (Lib.join es sp.data.toList).length ≤ 1000000) :
    Calls Tryz.prog 61 #[v, .string sp] w fun e w' => e = .returned (.string ⟨(Lib.join es sp.data.toList).toArray⟩) ∧ Below w.heap.size w w' := by
  have hc := h
  rcases h.2 with ⟨rfl, hz⟩ | ⟨g, cap, cur, rfl, h1, hg, hcap, hmx, _⟩
  · have e : es = [] := List.eq_nil_of_length_eq_zero hz
    subst e
    refine (Tryz.strings_Join_none none 0 sp w).mono ?_
    rintro e w' ⟨rfl, rfl⟩
    exact ⟨rfl, Below.refl _ _⟩
  · have hm : (es.map fun l => (⟨l.toArray⟩ : ByteArray)).map (·.data.toList) = es := by
      rw [List.map_map]
      conv => rhs; rw [← List.map_id es]
      apply List.map_congr_left
      intro l _
      simp
    have := Tryz.strings_Join g 0 cap (es.map fun l => (⟨l.toArray⟩ : ByteArray)) sp w (fun j x hx => by
        rw [List.getElem?_map] at hx
        obtain ⟨l, hl1, rfl⟩ := Option.map_eq_some_iff.1 hx
        have hj : j < es.length := (List.getElem?_eq_some_iff.1 hl1).1
        rw [Nat.zero_add, SRow.cell hc rfl j hj]
        rw [List.getD_eq_getElem?_getD, hl1]
        rfl) (Array.getElem?_eq_some_iff.1 hg).1 (by rw [List.length_map]; omega) (by rw [List.length_map]; exact hcap) (by rw [hm]; omega)
    rw [hm, List.length_map] at this
    exact this

set_option maxRecDepth 100000 in
set_option maxHeartbeats 1600000 in
theorem textsOf_any {X : Nat} (v : Value) (ks : List (TypeId × Value)) (es : List (List UInt8)) (sp : ByteArray) (w : World) (h : TreesAt X w v ks) (he : es.length = ks.length) (hS : ∀ j, j < ks.length → Shows X w (tv (ks.getD j tno)) (es.getD j [])) (hk : ks.length ≤ 1000) (hl : (Lib.join es sp.data.toList).length ≤ 1000000) :
    ∀ W, But X w W → Calls Tryz.prog 50 #[v, .string sp] W fun e w' => e = .returned (.string ⟨(Lib.join es sp.data.toList).toArray⟩) ∧ Below W.heap.size W w' := by
  intro W hW
  have h' := h.keep hW
  have HS : Hid (∀ j, j < ks.length → ∀ U, Below W.heap.size W U → Calls Tryz.prog 21 #[tv (ks.getD j tno)] U fun e w' => e = .returned (.string ⟨(es.getD j []).toArray⟩) ∧ Below U.heap.size U w') := fun j hj => (hS j hj).on hW
  clear hS h
  obtain ⟨a, c, rfl, f⟩ := h'
  obtain ⟨n, hn⟩ : ∃ n, n = ks.length := ⟨_, rfl⟩
  rw [← hn] at f HS hk he ⊢
  obtain ⟨M, hM, hmk⟩ := makeS_run n (by omega)
  have HW : Hid (SRow W.heap.size (W.alloc (.cells M 9)) (.slice (some ⟨W.heap.size, 0, none⟩) 0 n) []) := World.ownsRow_made W M n (Nat.le_refl _) (by unfold maxLen; omega) (by rw [hM]; omega)
  have HF : Hid (0 < n → ∃ b o, a = some ⟨b, o, none⟩ ∧ b ≠ X ∧ b < W.heap.size ∧ ∀ i, i < n → W.cell? ⟨b, o + i, none⟩ = some (tv (ks.getD i tno))) := f
  clear f hn hM
  go_enter Tryz.func50, Tryz.ntmps50
  go_wp2
  have HB0 : Hid (Below W.heap.size W (W.alloc (.cells M 9))) := (Below.refl _ _).alloc (Nat.le_refl _) _
  clear hmk
  generalize W.alloc (.cells M 9) = W0 at *
  go_loopw [13, 5] (fun i x wr => ∃ k : Nat, i = .int .i64 (k : Int) ∧ k ≤ n ∧ Below W.heap.size W wr ∧ Hid (SRow W.heap.size wr x (es.take k))) (fun i _ _ => n - (intOf i).toNat)
  case atStart => exact ⟨0, rfl, by omega, HB0.out, HW.out⟩
  case round =>
    obtain ⟨k, rfl, hkn, hbel, HR⟩ := hrel
    have HBL : Hid (Below W.heap.size W wr) := hbel
    by_cases hlt : k < n
    · obtain ⟨b, o, rfl, -, hb, hc⟩ := HF.out (by omega)
      have c1 := (hbel.cell hb).trans (hc k hlt)
      have HC := HS.out k hlt
      have hlk : (es.take k).length = k := by rw [List.length_take]; omega
      have HT : Hid (es.take (k + 1) = es.take k ++ [es.getD k []]) := by
        show _ = _
        rw [List.take_add_one, List.getElem?_eq_getElem (by omega)]
        simp [show k < es.length by omega]
      obtain ⟨T, x, hTx⟩ : ∃ T x, ks.getD k tno = (T, x) := ⟨_, _, rfl⟩
      rw [hTx] at c1 HC
      unfold tv at c1 HC
      simp only at c1 HC
      generalize es.getD k [] = E at *
      have C2 : Hid (∀ U, Below W.heap.size W U → Calls Tryz.prog 21 #[.iface T x] U fun e w' => e = .returned (.string ⟨E.toArray⟩) ∧ Below U.heap.size U w') := HC
      have i1 : (k : Int) < (n : Int) := by omega
      have i0 : (0 : Int) ≤ (k : Int) := by omega
      clear HC hc hTx hbel HF HS
      go_wp2_with fail
      refine (C2.out _ HBL.out).mono ?_
      rintro e w2 ⟨rfl, hb2⟩
      have HB2 : Hid (Below W.heap.size W w2) := HBL.out.trans (hb2.mono HBL.out.size)
      have HR2 : Hid (SRow W.heap.size w2 _ (es.take k)) := HR.out.keep hb2
      clear hb2 C2
      go_wp2_with (at_builtin; go_must (refine HR2.out.push rfl (.tmp 17) (.tmp 20) rfl rfl _ E rfl rfl ?hl ?hb ?_))
      case hl => omega
      case hb => exact HB2.out.size
      intro v' w' hrow hbw
      have HB3 : Hid (Below W.heap.size W w') := HB2.out.trans hbw
      have HR3 : Hid (SRow W.heap.size w' v' (es.take (k + 1))) := by rw [HT.out]; exact hrow
      clear hrow hbw
      go_wp2
      go_roundw
      case rel => exact ⟨k + 1, by go_num, by omega, HB3.out, HR3.out⟩
      case measure => simp [intOf]; omega
    · obtain rfl : k = n := by omega
      have hfull : es.take k = es := List.take_of_length_le (by omega)
      have hr := HR.out
      rw [hfull] at hr
      have CJ := join_row es sp wr _ hr (by omega) hl
      obtain ⟨ad, cap, rfl, -⟩ := hr.form
      rw [he] at CJ ⊢
      obtain ⟨R, hR⟩ : ∃ R, R = Lib.join es sp.data.toList := ⟨_, rfl⟩
      rw [← hR] at CJ
      have C2 : Hid (Calls Tryz.prog 61 #[.slice ad k cap, .string sp] wr fun e w' => e = .returned (.string ⟨R.toArray⟩) ∧ Below wr.heap.size wr w') := CJ
      have HRR : Hid (R = Lib.join es sp.data.toList) := hR
      clear hR
      clear CJ hr HR HF HS hfull hbel
      have i1 : ¬ ((k : Int) < (k : Int)) := by omega
      go_wp2_with fail
      refine C2.out.mono ?_
      rintro e w2 ⟨rfl, hb2⟩
      go_wp2
      go_ret
      exact ⟨by rw [← HRR.out]; rfl, HBL.out.trans (hb2.mono HBL.out.size)⟩
#print axioms textsOf_any

set_option maxHeartbeats 400000 in
theorem setText_any (op : Int) (w : World) : Calls Tryz.prog 51 #[.int .i64 op] w fun e w' => e = .returned (.string (if op = 19 ∨ op = 21 then ⟨#[32, 43, 61, 32]⟩ else ⟨#[32, 61, 32]⟩)) ∧ w' = w := by
  by_cases h1 : op = 19
  · subst h1
    go_enter Tryz.func51, Tryz.ntmps51
    go_wp2
    go_ret
    exact ⟨rfl, rfl⟩
  by_cases h2 : op = 21
  · subst h2
    go_enter Tryz.func51, Tryz.ntmps51
    go_wp2
    go_ret
    exact ⟨rfl, rfl⟩
  have d1 : (op == 19) = false := by simpa using h1
  have d2 : (op == 21) = false := by simpa using h2
  rw [if_neg (by omega)]
  clear h1 h2
  go_enter Tryz.func51, Tryz.ntmps51
  go_wp2
  go_ret
  exact ⟨rfl, rfl⟩
end Go.Proofs.YtknojhmnadmilaaGreatDoor
