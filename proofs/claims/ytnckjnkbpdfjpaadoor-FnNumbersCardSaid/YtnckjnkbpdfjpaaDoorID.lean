/- What the program's Hex answers, at every text. -/
import Derived.Test.YtnckjnkbpdfjpaaDoorKitM
import Derived.Test.YtnckjnkbpdfjpaaDoorPlainC
import Derived.BigQuiet
import Derived.Deep.QuietTactic
import Derived.Deep.RegionHeld3
import Derived.Deep.AppendLies
namespace Go.Proofs.YtnckjnkbpdfjpaaDoor
open Go.RowKit

/-- Two bytes more, at a step of a statement whose order is open. -/
theorem Row.step2 {ops : Array Oper} {o : Oper} {a : Act} {K : Act → World → Prop} {Q : Exit → Act → World → Prop} {E : Prop} {B : Nat} {w : World} {v : Value} {bs : List UInt8}
    (hown : Row B w v bs) (hgd : o.guard = none) (s x : Operand)
    (ho : o.op = .call { callee := .builtin .append, args := #[s, x], argTypes := #[22, 22] })
    (hs : a.eval s = v) (z1 z2 : Int) (c1 c2 : UInt8) (hz1 : z1 = (c1.toNat : Int)) (hz2 : z2 = (c2.toNat : Int)) (hx : a.eval x = .slice (some ⟨w.heap.size, 0, none⟩) 2 2)
    (hlen : bs.length < 140737488355320) (hB : B ≤ w.heap.size)
    (h : ∀ v' w', Row B w' v' (bs ++ [c1, c2]) → Below B w w' → K (a.put o.dst v') w') :
    if Region.wanted o (yielded ops a.tmps) = true then Oper.wp Tryd.prog o a (w.alloc (.cells #[.int .u8 z1, .int .u8 z2] 5)).drew K Q else E := by
  subst hz1 hz2
  obtain ⟨i0, hi, hy0, hy1, hy2⟩ := info_parts Tryd.infoU
  refine step_append_lies _ hgd s x 22 ho B 5 i0 (.int .u8 0) 1 1 Tryd.underlying22 hi hy0 hy1 hy2 rfl (by decide) v bs.length (bs.map bv) hs (World.ownsRow.drew (hown.alloc _)) ⟨w.heap.size, 0, none⟩ 2 2 [bv c1, bv c2] hx rfl
    (World.news_of_block (cs := #[bv c1, bv c2]) (t := 5) (fr := (0, 0)) (heap_alloc_new w _)) ?_ (by omega) ?_ ?_ ?_ (w.heap.size + 1) (by simp) ?_
  · intro u hu; simp at hu; rcases hu with rfl | rfl <;> rfl
  · unfold maxLen; omega
  · omega
  · simp; omega
  · intro g cap w' h2 h3 _ _
    refine h _ w' ?_ ?_
    · unfold Row; simpa using h2
    · exact (((Below.refl B w).alloc hB _).drew).grown h3 (by simp; omega) (fun k hk => (hown.lt k hk).1)

theorem ret_str2 {a b : ByteArray} (h : a = b) : Ending.returned (.tuple #[.string a, .bool true]) = Ending.returned (.tuple #[.string b, .bool true]) := by rw [h]

/-- What Hex answers. -/
def hexRes (s : ByteArray) : Value := if s.size ≤ 20000 then .tuple #[.string ⟨(Pl.hexL s.data.toList).toArray⟩, .bool true] else .tuple #[.string ⟨#[]⟩, .bool false]

theorem figures_run (x : Int) (h0 : 0 ≤ x) (h1 : x < 16) (wx : World) :
    (Instr.index 9 (.string ⟨#[48, 49, 50, 51, 52, 53, 54, 55, 56, 57, 97, 98, 99, 100, 101, 102]⟩) (.int .u8 x)).run Tryd.prog wx = .ok (.int .u8 ((Pl.fig x.toNat).toNat : Int)) wx := by
  have hs : Pl.figures.size = 16 := by decide
  have e := Pl.figures_at x.toNat (by omega) (by omega)
  rw [← e]
  have := run_index_string wx 9 Pl.figures .u8 x Tryd.underlying9
  rw [dif_pos (by omega)] at this
  exact this

set_option maxHeartbeats 800000 in
set_option maxRecDepth 100000 in
theorem implHex_any (s : ByteArray) (w : World) (hs : s.size ≤ 1048576) :
    Calls Tryd.prog 13 #[.string s] w fun e w' => e = .returned (hexRes s) ∧ Below w.heap.size w w' := by
  unfold hexRes
  by_cases h : s.size ≤ 20000
  · rw [if_pos h]
    obtain ⟨M, hMs, hmk⟩ := make_run (2 * s.size) (by omega)
    have ec : ((2 * s.size : Nat) : Int) = 2 * (s.size : Int) := by omega
    rw [ec] at hmk
    clear ec
    go_enter Tryd.func13, Tryd.ntmps13
    go_wp2
    go_loopw [4, 5] (fun v i wr => ∃ k : Nat, i = .int .i64 k ∧ k ≤ s.size ∧ Row w.heap.size wr v (Pl.hexL (s.data.toList.take k)) ∧ Below w.heap.size w wr) (fun _ i _ => s.size - (intOf i).toNat)
    case atStart => exact ⟨0, rfl, by omega, Row.made w M _ (Nat.le_refl _) (by unfold maxLen; omega) hMs, (Below.refl _ _).alloc (Nat.le_refl _) _⟩
    case round =>
      obtain ⟨k, rfl, hk, hrow, hbel⟩ := hrel
      have hsz := hbel.size
      have hll : (Pl.hexL (s.data.toList.take k)).length ≤ 40000 := by rw [Pl.hexL_len, Pl.take_len s k hk]; omega
      clear hmk
      by_cases hlt : k < s.size
      · have h256 : s[k].toNat < 256 := s[k].toNat_lt
        have hi0 : (0 : Int) ≤ (k : Int) := by omega
        have hi1 : (k : Int) < (s.size : Int) := by omega
        have ht1 : (s[k].toNat : Int).tdiv 16 = (s[k].toNat : Int) / 16 := Int.tdiv_eq_ediv_of_nonneg (by omega)
        have ht2 : (s[k].toNat : Int).tmod 16 = (s[k].toNat : Int) % 16 := Int.tmod_eq_emod_of_nonneg (by omega)
        have hw2 : IntKind.u8.wrap ((s[k].toNat : Int) / 16) = (s[k].toNat : Int) / 16 := IntWalk.u8_in _ (by omega)
        have hw3 : IntKind.u8.wrap ((s[k].toNat : Int) % 16) = (s[k].toNat : Int) % 16 := IntWalk.u8_in _ (by omega)
        have hix : ∀ wx, (Instr.index 9 (.string s) (.int .i64 (k : Int))).run Tryd.prog wx = .ok (.int .u8 (s[k].toNat : Int)) wx := by
          intro wx
          rw [run_index_string wx 9 s .i64 (k : Int) Tryd.underlying9, dif_pos (by omega)]
          rfl
        have hf1 := figures_run ((s[k].toNat : Int) / 16) (by omega) (by omega)
        have hf2 := figures_run ((s[k].toNat : Int) % 16) (by omega) (by omega)
        go_wp2_with fail
        go_region_held3 (fun _ => True) (go_keep) ((refine hrow.step2 (by rfl) _ _ (by rfl) (by rfl) _ _ _ _ (by rfl) (by rfl) (by rfl) (by omega) (by omega) ?_; intro v' w1 hrow' hbel'))
        all_goals
          rw [Pl.hex_more s k hlt] at hrow'
          go_wp2
          go_roundw
          case rel => exact ⟨k + 1, by go_num, by omega, hrow', hbel.trans hbel'⟩
          case measure => simp [intOf]; omega
      · have hst := hrow.str
        go_wp2
        go_ret2
        exact ⟨ret_str2 (by rw [Pl.take_all s k (by omega)]), hbel⟩
  · rw [if_neg h]
    go_enter Tryd.func13, Tryd.ntmps13
    go_wp2
    go_ret2
    exact ⟨rfl, Below.refl _ _⟩

end Go.Proofs.YtnckjnkbpdfjpaaDoor
