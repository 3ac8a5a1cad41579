/- A new cursor over the bytes of a draw; numbers and texts that are drawn: each is some number or text within its bounds, and nothing that was there is written. Small laws for the walks: rows of strings that the call itself made. -/
import Derived.Test.YtlnmbahakdmkgaaZbd
import Derived.Test.YtlnmbahakdmkgaaProg
import Derived.WalkKit
import Derived.WalkSpells
import Derived.WalkLawsBesides
import Derived.Handy
import Derived.Lib.Strings
import Derived.BigQuiet
import Derived.Deep.QuietTactic
import Derived.Deep.RegionHeld3
namespace Go.Proofs.Ytlnmbahakdmkgaa
section PartDB
open Go.RowKit

/-- The bytes of a draw, in a slice that came in. -/
def Code (w : World) (ad : Option Addr) (n : Nat) : Prop :=
  0 < n → ∃ b off, ad = some ⟨b, off, none⟩ ∧ b < w.heap.size ∧ ∀ j, j < n → ∃ z : Nat, z < 256 ∧ w.cell? ⟨b, off + j, none⟩ = some (.int .u8 (z : Int))
theorem Code.keep {w w' : World} {ad : Option Addr} {n : Nat} (h : Code w ad n) (hb : Below w.heap.size w w') : Code w' ad n := by
  intro h0
  obtain ⟨b, off, e, h1, h2⟩ := h h0
  refine ⟨b, off, e, Nat.lt_of_lt_of_le h1 hb.size, fun j hj => ?_⟩
  obtain ⟨z, hz, hc⟩ := h2 j hj
  exact ⟨z, hz, by rw [hb.cell (by exact h1)]; exact hc⟩
theorem below_of_grown {B : Nat} {w w' : World} {g : Nat} (h : w.grownBy w' (some g)) (hB : B ≤ g) (hg : g < w.heap.size) : Below B w w' :=
  (Below.refl B w).grown h (by omega) (fun k hk => by cases hk; exact hB)
theorem Drw.lt {B : Nat} {w : World} {g : Nat} {ad : Option Addr} {n cap : Nat} (h : Drw B w g ad n cap) : g < w.heap.size := by
  obtain ⟨i, k, _, hc⟩ := h.cur
  exact (Array.getElem?_eq_some_iff.1 hc).1

theorem Drw.made (w : World) (ad : Option Addr) (n cap : Nat) (x : Int) (hn : n ≤ 1048576) (hc : Code w ad n) :
    Drw (w.heap.size + 1) (w.alloc (.cells #[.slice ad n cap, .int .i64 0, .int .i64 x] 99)) w.heap.size ad n cap := by
  refine ⟨⟨0, x, by omega, heap_alloc_new w _⟩, by omega, hn, fun h0 => ?_⟩
  obtain ⟨b, off, e, h1, h2⟩ := hc h0
  refine ⟨b, off, e, by omega, by omega, fun j hj => ?_⟩
  obtain ⟨z, hz, hc⟩ := h2 j hj
  exact ⟨z, hz, by rw [((Below.refl w.heap.size w).alloc (Nat.le_refl _) _).cell (by exact h1)]; exact hc⟩

set_option maxHeartbeats 1000000 in
set_option maxRecDepth 100000 in
theorem new_any (ad : Option Addr) (n cap : Nat) (w : World) (hn : n ≤ 1048576) (hc : Code w ad n) :
    Calls Try.prog 31 #[.slice ad n cap] w fun e w' => e = .returned (.pointer (some ⟨w.heap.size, 0, none⟩)) ∧ Drw (w.heap.size + 1) w' w.heap.size ad n cap ∧ w'.heap.size = w.heap.size + 1 ∧ Below w.heap.size w w' := by
  have HC : Hid (Code w ad n) := hc
  clear hc
  go_enter Try.func31, Try.ntmps31
  go_wp2
  go_loop [3, 4] (fun h i => ∃ (k : Nat) (x : Int), i = .int .i64 (k : Int) ∧ h = .int .i64 x ∧ k ≤ n ∧ 0 ≤ x ∧ x ≤ 1073741823) (fun _ i => n - (intOf i).toNat)
  case atStart => exact ⟨0, _, rfl, rfl, by omega, by omega, by omega⟩
  case round =>
    obtain ⟨k, x, rfl, rfl, hk, hx0, hx1⟩ := hrel
    by_cases hlt : k < n
    · by_cases h4 : k < 4000
      · have d4 : decide ((k : Int) < 4000) = true := by simp; omega
        obtain ⟨b, off, hadr, _, hz⟩ := HC.out (by omega)
        obtain ⟨z, hz256, hzc⟩ := hz k hlt
        have HZ : Hid _ := hz
        clear hz
        have hlt2 : (k : Int) < (n : Int) := by omega
        have hy := and_le (x * 131 + (z : Int) + 7) 1073741823 (by decide)
        have HY : Hid (0 ≤ bits .and .i64 (x * 131 + (z : Int) + 7) 1073741823 ∧ bits .and .i64 (x * 131 + (z : Int) + 7) 1073741823 ≤ 1073741823) := hy
        clear hy
        subst hadr
        go_wp2
        go_round
        case rel => exact ⟨k + 1, _, by go_num, rfl, by omega, HY.out.1, HY.out.2⟩
        case measure => simp [intOf]; omega
      · have d4 : decide ((k : Int) < 4000) = false := by simp; omega
        go_wp2
        go_ret
        exact ⟨rfl, Drw.made w ad n cap x hn HC.out, by simp, (Below.refl _ _).alloc (Nat.le_refl _) _⟩
    · go_wp2
      go_ret
      exact ⟨rfl, Drw.made w ad n cap x hn HC.out, by simp, (Below.refl _ _).alloc (Nat.le_refl _) _⟩
end PartDB
section PartKS
open Go.RowKit

/-- A text as a value. -/
def sv (l : List UInt8) : Value := .string ⟨l.toArray⟩
theorem Try.infoS : (Try.prog.info? 9).map (fun i => (i.zero, i.size, i.bytes)) = some (some (.string ByteArray.empty), 1, 16) := by kernel_rfl

/-- The row of the texts ws, in the call's own memory from block B on. -/
def SRow (B : Nat) (w : World) (v : Value) (ws : List (List UInt8)) : Prop := w.ownsRow B 9 1 v ws.length (ws.map sv)

theorem SRow.nil (B : Nat) (w : World) : SRow B w (.slice none 0 0) [] := World.ownsRow_nil _ _ _ _
theorem SRow.none {B : Nat} (w : World) (hb : B ≤ w.heap.size) : SRow B (w.alloc (.cells #[] 9)) (.slice (some ⟨w.heap.size, 0, Option.none⟩) 0 0) [] :=
  World.ownsRow_made w #[] 0 hb (by decide) rfl
theorem SRow.alloc {B : Nat} {w : World} {v : Value} {ws : List (List UInt8)} (h : SRow B w v ws) (o : Obj) : SRow B (w.alloc o) v ws := World.ownsRow.alloc h o
/-- What is done above leaves the row as it was. -/
theorem SRow.keep {B : Nat} {w w' : World} {v : Value} {ws : List (List UInt8)} (h : SRow B w v ws) (hb : Below w.heap.size w w') : SRow B w' v ws := by
  refine ⟨h.1, ?_⟩
  rcases h.2 with hn | ⟨g, cap, cur, rfl, h1, hg, rest⟩
  · exact .inl hn
  · refine .inr ⟨g, cap, cur, rfl, h1, ?_, rest⟩
    rw [hb.block g (Array.getElem?_eq_some_iff.1 hg).1]
    exact hg
theorem SRow.lower {B B' : Nat} {w : World} {v : Value} {ws : List (List UInt8)} (h : SRow B w v ws) (hB : B' ≤ B) : SRow B' w v ws := by
  refine ⟨h.1, ?_⟩
  rcases h.2 with hn | ⟨g, cap, cur, rfl, h1, rest⟩
  · exact .inl hn
  · exact .inr ⟨g, cap, cur, rfl, by omega, rest⟩

/-- The slice is nil and empty, or it leads to its texts. -/
theorem SRow.form {B : Nat} {w : World} {v : Value} {ws : List (List UInt8)} (h : SRow B w v ws) :
    ∃ (ad : Option Addr) (cap : Nat), v = .slice ad ws.length cap ∧ (0 < ws.length → ∃ g, ad = some ⟨g, 0, Option.none⟩ ∧ B ≤ g ∧ g < w.heap.size ∧
      (∀ j, j < ws.length → w.cell? ⟨g, j, Option.none⟩ = some (sv (ws.getD j []))) ∧ ∀ j, w.frozen? ⟨g, j, Option.none⟩ = false) := by
  rcases h.2 with ⟨rfl, hn⟩ | ⟨g, cap, cur, rfl, h1, hg, _⟩
  · refine ⟨Option.none, 0, by rw [hn], fun h0 => by omega⟩
  · refine ⟨_, cap, rfl, fun _ => ⟨g, rfl, h1, (Array.getElem?_eq_some_iff.1 hg).1, ?_, fun j => World.ownsRow.frozenAt h j⟩⟩
    intro j hj
    rw [World.ownsRow.cellAt h j (by omega)]
    simp [hj]

theorem SRow.store {B : Nat} {w : World} {g cap n : Nat} {ws : List (List UInt8)} (h : SRow B w (.slice (some ⟨g, 0, Option.none⟩) n cap) ws) (hn : ws.length = n) (j : Nat) (c : List UInt8) :
    SRow B (w.setCell ⟨g, j, Option.none⟩ (.string ⟨c.toArray⟩)) (.slice (some ⟨g, 0, Option.none⟩) n cap) (ws.set j c) := by
  subst hn
  have := (World.ownsRow.stored h j (sv c)).1
  unfold SRow
  rw [List.map_set, List.length_set]
  exact this

theorem SRow.cell {B : Nat} {w : World} {g cap n : Nat} {ws : List (List UInt8)} (h : SRow B w (.slice (some ⟨g, 0, Option.none⟩) n cap) ws) (hn : ws.length = n) (j : Nat) (hj : j < n) : w.cell? ⟨g, j, Option.none⟩ = some (.string ⟨(ws.getD j []).toArray⟩) := by
  subst hn
  rw [World.ownsRow.cellAt h j (by omega)]
  simp [hj, sv]
theorem SRow.free {B : Nat} {w : World} {g cap n : Nat} {ws : List (List UInt8)} (h : SRow B w (.slice (some ⟨g, 0, Option.none⟩) n cap) ws) (hn : ws.length = n) (j : Nat) : w.frozen? ⟨g, j, Option.none⟩ = false := by
  subst hn
  exact World.ownsRow.frozenAt h j

/-- One text more. -/
theorem SRow.push {ops : Array Oper} {rest : List Oper} {o : Oper} {a : Act} {Q : Exit → Act → World → Prop} {B : Nat} {w : World} {v : Value} {ws : List (List UInt8)}
    (hown : SRow B w v ws) (hgd : o.guard = Option.none) (s x : Operand)
    (ho : o.op = .call { callee := .builtin .append, args := #[s, x], argTypes := #[101, 101] })
    (hs : a.eval s = v) (z : ByteArray) (c : List UInt8) (hz : z = ⟨c.toArray⟩) (hx : a.eval x = .slice (some ⟨w.heap.size, 0, Option.none⟩) 1 1)
    (hlen : ws.length < 1000000000) (hB : B ≤ w.heap.size)
    (h : ∀ v' w', SRow B w' v' (ws ++ [c]) → Below B w w' → wpList Try.prog ops Q rest (a.put o.dst v') w') :
    wpList Try.prog ops Q (o :: rest) a (w.alloc (.cells #[.string z] 9)) := by
  subst hz
  obtain ⟨i0, hi, hz0, hz1, hz2⟩ := info_parts Try.infoS
  refine wpList_append_own _ hgd s x 101 ho B 9 i0 (.string ByteArray.empty) 1 16 Try.underlying101 hi hz0 hz1 hz2 rfl (by decide) v ws.length (ws.map sv) hs (hown.alloc _) ⟨w.heap.size, 0, Option.none⟩ 1 1 [sv c] hx rfl (cell_one_new _ _ _) ?_ ?_ ?_ ?_ ?_
  · intro u hu; simp at hu; subst hu; rfl
  · unfold maxLen; omega
  · omega
  · simp; omega
  · intro v' w' h2 h3 _
    refine h v' w' ?_ ?_
    · unfold SRow; simpa using h2
    · exact ((Below.refl B w).alloc hB _).grown h3 (by simp; omega) (fun k hk => (hown.lt k hk).1)
end PartKS
end Go.Proofs.Ytlnmbahakdmkgaa
