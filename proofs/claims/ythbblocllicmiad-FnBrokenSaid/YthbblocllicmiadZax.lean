/- A new cursor over the bytes of a draw; numbers and texts that are drawn: each is some number or text within its bounds, and nothing that was there is written. Drawn places: twelve numbers, each of 0 .. 9999, in memory of their own. -/
import Derived.Test.YthbblocllicmiadZaw
namespace Go.Proofs.Ythbblocllicmiad
section PartDB
open Go.RowKit

/-- The bytes of a draw, in a slice that came in. -/
def Code (w : World) (ad : Option Addr) (n : Nat) : Prop :=
  0 < n → ∃ b off, ad = some ⟨b, off, none⟩ ∧ b < w.heap.size ∧ ∀ j, j < n → ∃ z : Nat, z < 256 ∧ w.cell? ⟨b, off + j, none⟩ = some (.int .u8 (z : Int))
theorem Code.keep {w w' : World} {ad : Option Addr} {n : Nat} (h : Code w ad n) (hb : Below w.heap.size w w') : Code w' ad n := by
  intro h0
  obtain ⟨b, off, e, h1, h2⟩ := h h0
  refine ⟨b, off, e, Nat.lt_of_lt_of_le h1 hb.size, fun j hj => ?_⟩
  obtain ⟨z, hz, hc⟩ := h2 j hj
  exact ⟨z, hz, by rw [hb.cell (by exact h1)]; exact hc⟩
theorem below_of_grown {B : Nat} {w w' : World} {g : Nat} (h : w.grownBy w' (some g)) (hB : B ≤ g) (hg : g < w.heap.size) : Below B w w' :=
  (Below.refl B w).grown h (by omega) (fun k hk => by cases hk; exact hB)
theorem Drw.lt {B : Nat} {w : World} {g : Nat} {ad : Option Addr} {n cap : Nat} (h : Drw B w g ad n cap) : g < w.heap.size := by
  obtain ⟨i, k, _, hc⟩ := h.cur
  exact (Array.getElem?_eq_some_iff.1 hc).1

theorem Drw.made (w : World) (ad : Option Addr) (n cap : Nat) (x : Int) (hn : n ≤ 1048576) (hc : Code w ad n) :
    Drw (w.heap.size + 1) (w.alloc (.cells #[.slice ad n cap, .int .i64 0, .int .i64 x] 42)) w.heap.size ad n cap := by
  refine ⟨⟨0, x, by omega, heap_alloc_new w _⟩, by omega, hn, fun h0 => ?_⟩
  obtain ⟨b, off, e, h1, h2⟩ := hc h0
  refine ⟨b, off, e, by omega, by omega, fun j hj => ?_⟩
  obtain ⟨z, hz, hc⟩ := h2 j hj
  exact ⟨z, hz, by rw [((Below.refl w.heap.size w).alloc (Nat.le_refl _) _).cell (by exact h1)]; exact hc⟩

set_option maxHeartbeats 1000000 in
set_option maxRecDepth 100000 in
theorem new_any (ad : Option Addr) (n cap : Nat) (w : World) (hn : n ≤ 1048576) (hc : Code w ad n) :
    Calls Try.prog 7 #[.slice ad n cap] w fun e w' => e = .returned (.pointer (some ⟨w.heap.size, 0, none⟩)) ∧ Drw (w.heap.size + 1) w' w.heap.size ad n cap ∧ w'.heap.size = w.heap.size + 1 ∧ Below w.heap.size w w' := by
  have HC : Hid (Code w ad n) := hc
  clear hc
  go_enter Try.func7, Try.ntmps7
  go_wp2
  go_loop [3, 4] (fun h i => ∃ (k : Nat) (x : Int), i = .int .i64 (k : Int) ∧ h = .int .i64 x ∧ k ≤ n ∧ 0 ≤ x ∧ x ≤ 1073741823) (fun _ i => n - (intOf i).toNat)
  case atStart => exact ⟨0, _, rfl, rfl, by omega, by omega, by omega⟩
  case round =>
    obtain ⟨k, x, rfl, rfl, hk, hx0, hx1⟩ := hrel
    by_cases hlt : k < n
    · by_cases h4 : k < 4000
      · have d4 : decide ((k : Int) < 4000) = true := by simp; omega
        obtain ⟨b, off, hadr, _, hz⟩ := HC.out (by omega)
        obtain ⟨z, hz256, hzc⟩ := hz k hlt
        have HZ : Hid _ := hz
        clear hz
        have hlt2 : (k : Int) < (n : Int) := by omega
        have hy := and_le (x * 131 + (z : Int) + 7) 1073741823 (by decide)
        have HY : Hid (0 ≤ bits .and .i64 (x * 131 + (z : Int) + 7) 1073741823 ∧ bits .and .i64 (x * 131 + (z : Int) + 7) 1073741823 ≤ 1073741823) := hy
        clear hy
        subst hadr
        go_wp2
        go_round
        case rel => exact ⟨k + 1, _, by go_num, rfl, by omega, HY.out.1, HY.out.2⟩
        case measure => simp [intOf]; omega
      · have d4 : decide ((k : Int) < 4000) = false := by simp; omega
        go_wp2
        go_ret
        exact ⟨rfl, Drw.made w ad n cap x hn HC.out, by simp, (Below.refl _ _).alloc (Nat.le_refl _) _⟩
    · go_wp2
      go_ret
      exact ⟨rfl, Drw.made w ad n cap x hn HC.out, by simp, (Below.refl _ _).alloc (Nat.le_refl _) _⟩
end PartDB
section PartDPz
open Go.RowKit

def ivp (z : Nat) : Value := .int .i64 (z : Int)
theorem infoIp : (Try.prog.info? 3).map (fun i => (i.zero, i.size, i.bytes)) = some (some (.int .i64 0), 1, 8) := by kernel_rfl
/-- The row of the numbers zs, in the call's own memory from block B on. -/
def IRow (B : Nat) (w : World) (v : Value) (zs : List Nat) : Prop := w.ownsRow B 3 1 v zs.length (zs.map ivp)
theorem IRow.made {B : Nat} (w : World) (hb : B ≤ w.heap.size) : IRow B (w.alloc (.cells #[] 3)) (.slice (some ⟨w.heap.size, 0, none⟩) 0 0) [] := World.ownsRow_made w #[] 0 hb (by decide) rfl
theorem IRow.alloc {B : Nat} {w : World} {v : Value} {zs : List Nat} (h : IRow B w v zs) (o : Obj) : IRow B (w.alloc o) v zs := World.ownsRow.alloc h o
theorem IRow.kept {B : Nat} {w w' : World} {v : Value} {zs : List Nat} {g : Nat} (h : IRow B w v zs) (hg : w.grownBy w' (some g)) (hB : g < B) : IRow B w' v zs := by
  refine World.ownsRow.kept h hg (.inr ?_)
  intro e
  have := (World.ownsRow.lt h g e).1
  omega
/-- One number more. -/
theorem IRow.push {ops : Array Oper} {rest : List Oper} {o : Oper} {a : Act} {Q : Exit → Act → World → Prop} {B : Nat} {w : World} {v : Value} {zs : List Nat}
    (hown : IRow B w v zs) (hgd : o.guard = none) (s x : Operand)
    (ho : o.op = .call { callee := .builtin .append, args := #[s, x], argTypes := #[30, 30] })
    (hs : a.eval s = v) (z : Int) (c : Nat) (hz : z = (c : Int)) (hx : a.eval x = .slice (some ⟨w.heap.size, 0, none⟩) 1 1)
    (hlen : zs.length < 1000000) (hB : B ≤ w.heap.size)
    (h : ∀ v' w', IRow B w' v' (zs ++ [c]) → Below B w w' → wpList Try.prog ops Q rest (a.put o.dst v') w') :
    wpList Try.prog ops Q (o :: rest) a (w.alloc (.cells #[.int .i64 z] 3)) := by
  subst hz
  obtain ⟨i0, hi, hz0, hz1, hz2⟩ := info_parts infoIp
  refine wpList_append_own _ hgd s x 30 ho B 3 i0 (.int .i64 0) 1 8 Try.underlying30 hi hz0 hz1 hz2 rfl (by decide) v zs.length (zs.map ivp) hs (hown.alloc _) ⟨w.heap.size, 0, none⟩ 1 1 [ivp c] hx rfl (cell_one_new _ _ _) ?_ ?_ ?_ ?_ ?_
  · intro u hu; simp at hu; subst hu; rfl
  · unfold maxLen; omega
  · omega
  · simp; omega
  · intro v' w' h2 h3 _
    refine h v' w' ?_ ?_
    · unfold IRow; simpa using h2
    · exact ((Below.refl B w).alloc hB _).grown h3 (by simp; omega) (fun k hk => (hown.lt k hk).1)
theorem IRow.form {B : Nat} {w : World} {v : Value} {zs : List Nat} (h : IRow B w v zs) (hne : zs ≠ []) :
    ∃ g cap, v = .slice (some ⟨g, 0, none⟩) zs.length cap ∧ B ≤ g ∧ g < w.heap.size ∧ ∀ j, j < zs.length → w.cell? ⟨g, j, none⟩ = some (.int .i64 ((zs.getD j 0 : Nat) : Int)) := by
  rcases h.2 with ⟨_, hn⟩ | ⟨g, cap, cur, rfl, h1, hg, _⟩
  · exact absurd (by simpa using hn) hne
  · refine ⟨g, cap, rfl, h1, (Array.getElem?_eq_some_iff.1 hg).1, fun j hj => ?_⟩
    rw [World.ownsRow.cellAt h j (by omega)]
    simp [hj, ivp]

set_option maxHeartbeats 1000000 in
set_option maxRecDepth 100000 in
theorem drawPlaces_any (ad : Option Addr) (n cap : Nat) (w : World) (hn : n ≤ 1048576) (hc : Code w ad n) :
    Calls Try.prog 5 #[.slice ad n cap] w fun e w' => ∃ (g c : Nat) (zs : List Nat), zs.length = 12 ∧ (∀ j, zs.getD j 0 < 10000) ∧ e = .returned (.slice (some ⟨g, 0, none⟩) 12 c) ∧ w.heap.size ≤ g ∧ g < w'.heap.size ∧
      (∀ j, j < 12 → w'.cell? ⟨g, j, none⟩ = some (.int .i64 ((zs.getD j 0 : Nat) : Int))) ∧ Below w.heap.size w w' := by
  have HC : Hid (Code w ad n) := hc
  clear hc
  go_enter Try.func5, Try.ntmps5
  go_wp2_with fail
  refine (new_any ad n cap w hn HC.out).mono ?_
  rintro e w1 ⟨rfl, d1, s1, b1⟩
  have D1 : Hid (Drw (w.heap.size + 1) w1 w.heap.size ad n cap) := d1
  clear d1
  go_wp2_with fail
  refine (byte_any _ _ n cap ad w1 D1.out).mono ?_
  rintro e w2 ⟨x, hx, rfl, d2, g2⟩
  have D2 : Hid (Drw (w.heap.size + 1) w2 w.heap.size ad n cap) := d2
  have B2 : Hid (Below w.heap.size w w2) := b1.trans (below_of_grown g2 (Nat.le_refl _) (by omega))
  have s2 := g2.size
  clear d2 g2 b1 hx
  go_wp2
  go_loopw [4, 5] (fun v i wr => ∃ (k : Nat) (zs : List Nat), i = .int .i64 (k : Int) ∧ k ≤ 12 ∧ IRow (w.heap.size + 1) wr v zs ∧ w.heap.size + 1 ≤ wr.heap.size ∧ Hid (zs.length = k) ∧ Hid (∀ j, zs.getD j 0 < 10000) ∧ Hid (Drw (w.heap.size + 1) wr w.heap.size ad n cap) ∧ Hid (Below w.heap.size w wr)) (fun _ i _ => 12 - (intOf i).toNat)
  case atStart => exact ⟨0, [], rfl, by omega, IRow.made w2 (by omega), by simp; omega, rfl, (by show ∀ j, _; simp), D2.out.keep ((Below.refl _ _).alloc (by omega) _), B2.out.alloc B2.out.size _⟩
  case round =>
    obtain ⟨k, zs, rfl, hk, hrow, hsz, HL, HZ, HDR, HB⟩ := hrel
    by_cases hlt : k < 12
    · go_wp2_with fail
      refine (below_any _ _ n cap ad 10000 wr HDR.out (by decide) (by decide)).mono ?_
      rintro e w3 ⟨x, hx, rfl, d3, g3⟩
      have hrow1 := hrow.kept g3 (by omega)
      have D3 : Hid (Drw (w.heap.size + 1) w3 w.heap.size ad n cap) := d3
      have B3 : Hid (Below w.heap.size w w3) := HB.out.trans (below_of_grown g3 (Nat.le_refl _) (by omega))
      have hs1 := g3.size
      have hlen : zs.length < 1000000 := by have := HL.out; omega
      clear d3 g3 hrow
      go_wp2_with (at_builtin; go_must (refine hrow1.push rfl (.tmp 15) (.tmp 18) rfl rfl _ x ?hz rfl ?hl ?hb ?_))
      case hz => omega
      case hl => omega
      case hb => omega
      · intro v' w4 hrow' hbel'
        have B4 : Hid (Below w.heap.size w w4) := B3.out.trans (hbel'.mono (by omega))
        have HZ2 : Hid (∀ j, (zs ++ [x]).getD j 0 < 10000) := by
          show ∀ j, _
          intro j
          have h1 := HZ.out j
          rcases Nat.lt_trichotomy j zs.length with h | h | h
          · rw [List.getD_eq_getElem?_getD, List.getElem?_append_left h, ← List.getD_eq_getElem?_getD]; exact h1
          · subst h; simp; exact hx
          · rw [List.getD_eq_getElem?_getD, List.getElem?_eq_none (by simp; omega)]; decide
        go_wp2
        go_roundw
        case rel => exact ⟨k + 1, _, by go_num, by omega, hrow', by have := hbel'.size; omega, by have := HL.out; show _ = _; simp; omega, HZ2.out, D3.out.keep hbel', B4.out⟩
        case measure => simp [intOf]; omega
    · have hl12 : zs.length = 12 := by have := HL.out; omega
      obtain ⟨g, c, rfl, hg1, hg2, hcell⟩ := hrow.form (by intro e; rw [e] at hl12; cases hl12)
      rw [hl12] at hcell ⊢
      have HCL : Hid _ := hcell
      clear hcell
      go_wp2
      go_ret
      exact ⟨g, c, zs, hl12, HZ.out, rfl, by omega, hg2, HCL.out, HB.out⟩

end PartDPz
end Go.Proofs.Ythbblocllicmiad
