/- What the law on turned bytes meets: sealed and unsealed texts, and a text's bytes as a row. -/
import Derived.Test.YtbfnpdklnbpgjaaDoorImUns
import Derived.Test.YtbfnpdklnbpgjaaDoorPlainT
import Derived.Test.YtbfnpdklnbpgjaaDoorDPl
import Derived.Lib.ConvBytes
namespace Go.Proofs.YtbfnpdklnbpgjaaDoor
open Go.RowKit

theorem Ps.list_data (l : List UInt8) : (⟨l.toArray⟩ : ByteArray).data.toList = l := by simp
theorem Ps.list_size (l : List UInt8) : (⟨l.toArray⟩ : ByteArray).size = l.length := by simp [ByteArray.size]

theorem cSealed (l : List UInt8) (w : World) (h : l.length ≤ 100) (ht : Tabd w) :
    Calls Tryd.prog 18 #[.string ⟨l.toArray⟩] w fun e w' => e = .returned (.tuple #[.string ⟨(Ps.sld l).toArray⟩, .bool true]) ∧ Below w.heap.size w w' := by
  have := implSealed_any ⟨l.toArray⟩ w (by rw [Ps.list_size]; omega) ht
  rw [sealRes_yes _ (by rw [Ps.list_size]; omega), Ps.list_data] at this
  exact this
theorem cUnsealed (l : List UInt8) (w : World) (h : l.length ≤ 100) (ht : Tabd w) :
    Calls Tryd.prog 19 #[.string ⟨(Ps.sld l).toArray⟩] w fun e w' => e = .returned (.tuple #[.string ⟨l.toArray⟩, .bool true]) ∧ Below w.heap.size w w' := by
  have hz : (⟨(Ps.sld l).toArray⟩ : ByteArray).size = l.length + 4 := by rw [Ps.list_size, Ps.sld_len]
  have := implUnsealed_any ⟨(Ps.sld l).toArray⟩ w (by omega) ht
  rw [unsRes_yes _ ((Ps.isS_iff _ l.length hz).2 ⟨by omega, by rw [Ps.list_data, Ps.sld_take, Ps.sld_drop]⟩), hz, Nat.add_sub_cancel, Ps.list_data, Ps.sld_take] at this
  exact this
theorem cTurned (l : List UInt8) (i : Nat) (c : UInt8) (w : World) (h : l.length ≤ 100) (hi : i < (Ps.sld l).length) (hc : c ≠ (Ps.sld l)[i]) (ht : Tabd w) :
    Calls Tryd.prog 19 #[.string ⟨((Ps.sld l).set i c).toArray⟩] w fun e w' => e = .returned (.tuple #[.string ⟨#[]⟩, .bool false]) ∧ Below w.heap.size w w' := by
  have hz : (⟨((Ps.sld l).set i c).toArray⟩ : ByteArray).size = l.length + 4 := by rw [Ps.list_size, List.length_set, Ps.sld_len]
  have := implUnsealed_any ⟨((Ps.sld l).set i c).toArray⟩ w (by omega) ht
  rw [unsRes_no _ (fun hh => Ps.turned l i c hi hc (by have := ((Ps.isS_iff _ l.length hz).1 hh).2; rwa [Ps.list_data] at this))] at this
  exact this

/-- The bytes of a text, as a new row. -/
theorem conv_any (l : List UInt8) (w : World) : ∃ cap w', (convert 9 22 (.string ⟨l.toArray⟩)).run Tryd.prog w = .ok (.slice (some ⟨w.heap.size, 0, none⟩) l.length cap) w' ∧
    (∀ j, j < l.length → w'.cell? ⟨w.heap.size, j, none⟩ = some (.int .u8 ((l.getD j 0).toNat : Int))) ∧ (∀ j, j < l.length → w'.frozen? ⟨w.heap.size, j, none⟩ = false) ∧ Below w.heap.size w w' ∧ w'.heap.size = w.heap.size + 1 := by
  have hz := Ps.list_size l
  have hcv := Lib.run_convert_string_bytes (P := Tryd.prog) w 9 22 5 ⟨l.toArray⟩ (u := .string) Tryd.underlying9 Tryd.underlying22 Tryd.underlying5
  rw [hz] at hcv
  refine ⟨_, _, hcv, fun j hj => ?_, fun j hj => ?_, ?_, Lib.bytesWorld_size _ _ _⟩
  · have := Lib.bytesWorld_cell w 5 ⟨l.toArray⟩ j (by omega)
    rw [Ps.list_data] at this
    exact this
  · have hbs : l.length ≤ (Lib.bytesCells w 5 ⟨l.toArray⟩).size := by
      unfold Lib.bytesCells
      simp
    simp only [World.frozen?, Lib.bytesWorld_at_new]
    simp
    omega
  · exact ⟨rfl, rfl, rfl, by rw [Lib.bytesWorld_size]; omega, fun k hk => Lib.bytesWorld_at_old w 5 _ k hk⟩

/-- The string of a row whose one byte was written. -/
theorem conv_back (l : List UInt8) (g cap i : Nat) (c : UInt8) (w w' : World) (hi : i < l.length)
    (hc : ∀ j, j < l.length → w.cell? ⟨g, j, none⟩ = some (.int .u8 ((l.getD j 0).toNat : Int)))
    (hw : ∀ j, w'.cell? ⟨g, j, none⟩ = (w.setCell ⟨g, i, none⟩ (.int .u8 (c.toNat : Int))).cell? ⟨g, j, none⟩) :
    (convert 22 9 (.slice (some ⟨g, 0, none⟩) l.length cap)).run Tryd.prog w' = .ok (.string ⟨(l.set i c).toArray⟩) w' := by
  have hcells : ∀ j, j < l.length → w'.cell? ⟨g, 0 + j, none⟩ = some (.int .u8 (((l.set i c).map fun b => (b.toNat : Int)).getD j 0)) := by
    intro j hj
    rw [Nat.zero_add, hw j]
    by_cases hji : j = i
    · subst hji
      rw [World.cell?_setCell_same _ _ _ (hc j hj)]
      simp [hj]
    · rw [World.cell?_setCell_other _ _ _ _ (by intro e; cases e; exact hji rfl), hc j hj]
      simp [hj, Ne.symm hji]
  rw [run_convert_bytes_arg (P := Tryd.prog) w' 22 5 Tryd.underlying22 Tryd.underlying5 g 0 l.length cap ((l.set i c).map fun b => (b.toNat : Int)) (by simp) hcells 9 Tryd.underlying9]
  have e3 : strOfNums ((l.set i c).map fun b => (b.toNat : Int)) = ⟨(l.set i c).toArray⟩ := by
    unfold strOfNums
    congr 2
    rw [List.map_map]
    conv => rhs; rw [← List.map_id (l.set i c)]
    apply List.map_congr_left
    intro b _
    simp
  rw [e3]

set_option maxHeartbeats 400000 in
theorem big_any (ad : Option Addr) (n cap : Nat) (w : World) : Calls Tryd.prog 5 #[.slice ad n cap] w fun e w' => e = .returned (.bool (decide ((1048576 : Int) < (n : Int)))) ∧ w' = w := by
  go_enter Tryd.func5, Tryd.ntmps5
  go_wp2
  go_ret
  exact ⟨rfl, rfl⟩
end Go.Proofs.YtbfnpdklnbpgjaaDoor
