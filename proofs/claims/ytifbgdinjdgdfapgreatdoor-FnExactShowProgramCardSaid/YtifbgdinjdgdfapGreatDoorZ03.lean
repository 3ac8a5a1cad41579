/- Programs in memory: two of the same nodes are told the same. Programs in memory: two of the same programs are told the same. The specification's reader of a pattern: what it holds, and its two tests. Frames: what of a world is as it was. The specification's reader of a pattern: one piece more. -/
import Derived.Test.YtifbgdinjdgdfapGreatDoorZ02
import Derived.Test.YtifbgdinjdgdfapGreatDoorZ01
import Derived.Test.YtifbgdinjdgdfapGreatDoorProg
import Derived.Test.YtifbgdinjdgdfapGreatDoorZ00
import Derived.WalkKit
import Derived.WalkSpells
import Derived.WalkLawsBesides
import Derived.Handy
import Derived.Lib.Strings
import Derived.BigQuiet
import Derived.Deep.QuietTactic
import Derived.Below
import Derived.Deep.RegionLaw
import Derived.Deep.AppendLies
namespace Go.Proofs.YtifbgdinjdgdfapGreatDoor
section PartLgC
open Go.RowKit

set_option maxHeartbeats 800000 in
theorem eqNode_any (v1 v2 : Value) (p : Pi) (w : World) (h1 : KidsAt w v1 p.kids) (h2 : KidsAt w v2 p.kids) (hl : p.kids.length ≤ 1048576) :
    Calls Tryz.prog 61 #[.agg #[.int .i64 p.op, .string p.text, v1], .agg #[.int .i64 p.op, .string p.text, v2]] w fun e w' => e = .returned (.bool true) ∧ Below w.heap.size w w' := by
  obtain ⟨op, t, ks⟩ := p
  simp only at h1 h2 hl ⊢
  have CC : Hid (∀ w', Below w.heap.size w w' → Calls Tryz.prog 98 #[v1, v2] w' fun e w'' => e = .returned (.bool true) ∧ Below w'.heap.size w' w'') := fun w' hb => eqInts_any v1 v2 ks w' (h1.keep hb) (h2.keep hb) hl
  obtain ⟨a1, c1, rfl, f1⟩ := h1
  obtain ⟨a2, c2, rfl, f2⟩ := h2
  clear f1 f2
  have hq : (op != op) = false := by simp
  go_enter Tryz.func61, Tryz.ntmps61
  go_wp2_with fail
  refine (CC.out _ (((Below.refl _ _).alloc (Nat.le_refl _) _).alloc (by simp) _)).mono ?_
  rintro e w1 ⟨rfl, hb1⟩
  go_wp2
  go_ret
  exact ⟨rfl, (((Below.refl _ _).alloc (Nat.le_refl _) _).alloc (by simp) _).trans (hb1.mono (by simp; omega))⟩

set_option maxHeartbeats 2000000 in
theorem eqNodes_any (v1 v2 : Value) (ps : List Pi) (w : World) (h1 : PcsAt w v1 ps) (h2 : PcsAt w v2 ps) (hl : ps.length ≤ 1048576) (hs : Small ps ps.length) :
    Calls Tryz.prog 25 #[v1, v2] w fun e w' => e = .returned (.bool true) ∧ Below w.heap.size w w' := by
  obtain ⟨a1, c1, rfl, f1⟩ := h1
  obtain ⟨a2, c2, rfl, f2⟩ := h2
  obtain ⟨n, hn⟩ : ∃ n, n = ps.length := ⟨_, rfl⟩
  have HS : Hid (Small ps n) := by rw [hn]; exact hs
  rw [← hn] at f1 f2 hl ⊢
  clear hs
  have hq : ((n : Int) != (n : Int)) = false := by simp
  by_cases h0 : n = 0
  · subst h0
    clear f1 f2 hn
    go_enter Tryz.func25, Tryz.ntmps25
    go_wp2
    refine wp_loop_rounds 1 ?_
    rw [rounds_succ]
    go_wp2
    go_ret
    exact ⟨rfl, Below.refl _ _⟩
  · obtain ⟨g1, o1, rfl, l1, k1⟩ := f1 (by omega)
    obtain ⟨g2, o2, rfl, l2, k2⟩ := f2 (by omega)
    have K1 : Hid (∀ j, j < n → PieceAt w g1 (o1 + j * 3) (ps.getD j Pi.no)) := k1
    have K2 : Hid (∀ j, j < n → PieceAt w g2 (o2 + j * 3) (ps.getD j Pi.no)) := k2
    clear k1 k2 f1 f2 hn
    go_enter Tryz.func25, Tryz.ntmps25
    go_wp2
    go_loopw [5] (fun i wr => ∃ k : Nat, i = .int .i64 (k : Int) ∧ k ≤ n ∧ Below w.heap.size w wr) (fun i _ => n - (intOf i).toNat)
    case atStart => exact ⟨0, rfl, by omega, Below.refl _ _⟩
    case round =>
      obtain ⟨k, rfl, hk, hbel⟩ := hrel
      have hsz := hbel.size
      by_cases hlt : k < n
      · have q1 := (K1.out k hlt).keep l1 hbel
        have q2 := (K2.out k hlt).keep l2 hbel
        have hkl := (HS.out k hlt).1
        obtain ⟨p, hp⟩ : ∃ p, p = ps.getD k Pi.no := ⟨_, rfl⟩
        rw [← hp] at q1 q2 hkl
        clear hp
        obtain ⟨kv1, x0, x1, x2, y1⟩ := q1
        obtain ⟨kv2, z0, z1, z2, y2⟩ := q2
        have CC : Hid (∀ w', Below wr.heap.size wr w' → Calls Tryz.prog 61 #[.agg #[.int .i64 p.op, .string p.text, kv1], .agg #[.int .i64 p.op, .string p.text, kv2]] w' fun e w'' => e = .returned (.bool true) ∧ Below w'.heap.size w' w'') :=
          fun w' hb => eqNode_any kv1 kv2 p w' (y1.keep hb) (y2.keep hb) hkl
        obtain ⟨op, t, ks⟩ := p
        simp only at x0 x1 z0 z1 CC
        obtain ⟨ka1, kc1, rfl, _⟩ := y1
        obtain ⟨ka2, kc2, rfl, _⟩ := y2
        have i1 : (k : Int) < (n : Int) := by omega
        have i0 : (0 : Int) ≤ (k : Int) := by omega
        go_wp2_with fail
        go_region_with ((go_at_call 61; refine (CC.out _ (by first | exact Below.refl _ _ | exact (Below.refl _ _).drew)).mono ?_; rintro e w1 ⟨rfl, hb1⟩))
        all_goals
          go_wp2
          go_roundw
          case rel => exact ⟨k + 1, by go_num, by omega, hbel.trans (((Below.refl _ _).drew.trans hb1).mono hsz)⟩
          case measure => simp [intOf]; omega
      · go_wp2
        go_ret
        exact ⟨rfl, hbel⟩

end PartLgC
section PartLgF
open Go.RowKit

set_option maxHeartbeats 800000 in
theorem eqRule_any (x y z : Int) (w : World) :
    Calls Tryz.prog 62 #[.agg #[.int .i64 x, .int .i64 y, .int .i64 z], .agg #[.int .i64 x, .int .i64 y, .int .i64 z]] w fun e w' => e = .returned (.bool true) ∧ Below w.heap.size w w' := by
  have hx : (x != x) = false := by simp
  have hy : (y != y) = false := by simp
  have hz : (z != z) = false := by simp
  go_enter Tryz.func62, Tryz.ntmps62
  go_wp2
  go_ret
  exact ⟨rfl, ((Below.refl _ _).alloc (Nat.le_refl _) _).alloc (by simp) _⟩

set_option maxHeartbeats 2000000 in
theorem eqRules_any (v1 v2 : Value) (rs : List Pg.Rl) (w : World) (h1 : RlsAt w v1 rs) (h2 : RlsAt w v2 rs) (hl : rs.length ≤ 1048576) :
    Calls Tryz.prog 26 #[v1, v2] w fun e w' => e = .returned (.bool true) ∧ Below w.heap.size w w' := by
  obtain ⟨a1, c1, rfl, f1⟩ := h1
  obtain ⟨a2, c2, rfl, f2⟩ := h2
  obtain ⟨n, hn⟩ : ∃ n, n = rs.length := ⟨_, rfl⟩
  rw [← hn] at f1 f2 hl ⊢
  have hq : ((n : Int) != (n : Int)) = false := by simp
  by_cases h0 : n = 0
  · subst h0
    clear f1 f2 hn
    go_enter Tryz.func26, Tryz.ntmps26
    go_wp2
    refine wp_loop_rounds 1 ?_
    rw [rounds_succ]
    go_wp2
    go_ret
    exact ⟨rfl, Below.refl _ _⟩
  · obtain ⟨g1, o1, rfl, l1, k1⟩ := f1 (by omega)
    obtain ⟨g2, o2, rfl, l2, k2⟩ := f2 (by omega)
    have K1 : Hid (∀ i, i < n → w.cell? ⟨g1, o1 + i * 3, none⟩ = some (.int .i64 (rs.getD i Pg.Rl.no).when) ∧ w.cell? ⟨g1, o1 + i * 3 + 1, none⟩ = some (.int .i64 (rs.getD i Pg.Rl.no).cond) ∧ w.cell? ⟨g1, o1 + i * 3 + 2, none⟩ = some (.int .i64 (rs.getD i Pg.Rl.no).act)) := k1
    have K2 : Hid (∀ i, i < n → w.cell? ⟨g2, o2 + i * 3, none⟩ = some (.int .i64 (rs.getD i Pg.Rl.no).when) ∧ w.cell? ⟨g2, o2 + i * 3 + 1, none⟩ = some (.int .i64 (rs.getD i Pg.Rl.no).cond) ∧ w.cell? ⟨g2, o2 + i * 3 + 2, none⟩ = some (.int .i64 (rs.getD i Pg.Rl.no).act)) := k2
    clear k1 k2 f1 f2 hn
    go_enter Tryz.func26, Tryz.ntmps26
    go_wp2
    go_loopw [5] (fun i wr => ∃ k : Nat, i = .int .i64 (k : Int) ∧ k ≤ n ∧ Below w.heap.size w wr) (fun i _ => n - (intOf i).toNat)
    case atStart => exact ⟨0, rfl, by omega, Below.refl _ _⟩
    case round =>
      obtain ⟨k, rfl, hk, hbel⟩ := hrel
      have hsz := hbel.size
      by_cases hlt : k < n
      · have q1 := K1.out k hlt
        have q2 := K2.out k hlt
        obtain ⟨p, hp⟩ : ∃ p, p = rs.getD k Pg.Rl.no := ⟨_, rfl⟩
        rw [← hp] at q1 q2
        clear hp
        have x0 := (hbel.cell l1).trans q1.1
        have x1 := (hbel.cell l1).trans q1.2.1
        have x2 := (hbel.cell l1).trans q1.2.2
        have z0 := (hbel.cell l2).trans q2.1
        have z1 := (hbel.cell l2).trans q2.2.1
        have z2 := (hbel.cell l2).trans q2.2.2
        obtain ⟨px, py, pz⟩ := p
        simp only at x0 x1 x2 z0 z1 z2
        have CC : Hid (∀ w', Calls Tryz.prog 62 #[.agg #[.int .i64 px, .int .i64 py, .int .i64 pz], .agg #[.int .i64 px, .int .i64 py, .int .i64 pz]] w' fun e w'' => e = .returned (.bool true) ∧ Below w'.heap.size w' w'') := fun w' => eqRule_any px py pz w'
        clear q1 q2
        have i1 : (k : Int) < (n : Int) := by omega
        have i0 : (0 : Int) ≤ (k : Int) := by omega
        go_wp2_with fail
        go_region_with ((go_at_call 62; refine (CC.out _).mono ?_; rintro e w1 ⟨rfl, hb1⟩))
        all_goals
          go_wp2
          go_roundw
          case rel => exact ⟨k + 1, by go_num, by omega, hbel.trans (((Below.refl _ _).drew.trans hb1).mono hsz)⟩
          case measure => simp [intOf]; omega
      · go_wp2
        go_ret
        exact ⟨rfl, hbel⟩

set_option maxHeartbeats 800000 in
theorem eqProg_any (v1 r1 v2 r2 : Value) (ps : List Pi) (rs : List Pg.Rl) (w : World) (h1 : PcsAt w v1 ps) (g1 : RlsAt w r1 rs) (h2 : PcsAt w v2 ps) (g2 : RlsAt w r2 rs) (hl : ps.length ≤ 1048576) (hs : Small ps ps.length) (hlr : rs.length ≤ 1048576) :
    Calls Tryz.prog 7 #[.agg #[v1, r1], .agg #[v2, r2]] w fun e w' => e = .returned (.bool true) ∧ Below w.heap.size w w' := by
  have CC : Hid (∀ w', Below w.heap.size w w' → Calls Tryz.prog 25 #[v1, v2] w' fun e w'' => e = .returned (.bool true) ∧ Below w'.heap.size w' w'') := fun w' hb => eqNodes_any v1 v2 ps w' (h1.keep hb) (h2.keep hb) hl hs
  have CR : Hid (∀ w', Below w.heap.size w w' → Calls Tryz.prog 26 #[r1, r2] w' fun e w'' => e = .returned (.bool true) ∧ Below w'.heap.size w' w'') := fun w' hb => eqRules_any r1 r2 rs w' (g1.keep hb) (g2.keep hb) hlr
  obtain ⟨a1, c1, rfl, -⟩ := h1
  obtain ⟨a2, c2, rfl, -⟩ := h2
  obtain ⟨d1, e1, rfl, -⟩ := g1
  obtain ⟨d2, e2, rfl, -⟩ := g2
  have HB : Hid (Below w.heap.size w ((w.alloc (.cells #[.slice a1 ps.length c1, .slice d1 rs.length e1] 25)).alloc (.cells #[.slice a2 ps.length c2, .slice d2 rs.length e2] 25))) := ((Below.refl _ _).alloc (Nat.le_refl _) _).alloc (by simp) _
  go_enter Tryz.func7, Tryz.ntmps7
  go_wp2_with fail
  refine (CC.out _ HB.out).mono ?_
  rintro e w1 ⟨rfl, hb1⟩
  have x1 : w1.cell? ⟨w.heap.size, 1, none⟩ = some (.slice d1 rs.length e1) := (hb1.cell (by simp; omega)).trans (by simp)
  have x2 : w1.cell? ⟨w.heap.size + 1, 1, none⟩ = some (.slice d2 rs.length e2) := (hb1.cell (by simp)).trans (by simp)
  have HB1 : Hid (Below w.heap.size w w1) := HB.out.trans (hb1.mono (by simp; omega))
  clear hb1 CC
  go_wp2_with fail
  refine (CR.out _ HB1.out).mono ?_
  rintro e w2 ⟨rfl, hb2⟩
  go_wp2
  go_ret
  exact ⟨rfl, HB1.out.trans (hb2.mono HB1.out.size)⟩
end PartLgF
section PartRdA
open Go.RowKit

/-- What the reader holds, in block g: its text, its place, whether it is bad, its pieces. -/
def Rd (w : World) (g : Nat) (s : ByteArray) (a : Nat) (bad : Bool) (v : Value) : Prop :=
  w.heap[g]? = some (.cells #[.string s, .int .i64 (a : Int), .bool bad, v] 177 (0, 0))
theorem cells4 {w : World} {g : Nat} {a b c d : Value} {t : TypeId} (h : w.heap[g]? = some (.cells #[a, b, c, d] t (0, 0))) :
    w.cell? ⟨g, 0, none⟩ = some a ∧ w.cell? ⟨g, 1, none⟩ = some b ∧ w.cell? ⟨g, 2, none⟩ = some c ∧ w.cell? ⟨g, 3, none⟩ = some d ∧
      w.frozen? ⟨g, 0, none⟩ = false ∧ w.frozen? ⟨g, 1, none⟩ = false ∧ w.frozen? ⟨g, 2, none⟩ = false ∧ w.frozen? ⟨g, 3, none⟩ = false := by
  refine ⟨?_, ?_, ?_, ?_, ?_, ?_, ?_, ?_⟩ <;> simp [World.cell?, World.frozen?, h]

set_option maxHeartbeats 1000000 in
set_option maxRecDepth 100000 in
/-- Is it the sign c that comes next? -/
theorem rdIs_any (g a c : Nat) (s : ByteArray) (bad : Bool) (v : Value) (w : World) (h : Rd w g s a bad v) (ha : a ≤ s.size) (hc : c < 256) :
    Calls Tryz.prog 125 #[.pointer (some ⟨g, 0, none⟩), .int .u8 (c : Int)] w fun e w' =>
      e = .returned (.bool (!bad && decide (s.data.toList[a]? = some (UInt8.ofNat c)))) ∧ ∃ k, w' = w.drewN k := by
  obtain ⟨c0, c1, c2, c3, f0, f1, f2, f3⟩ := cells4 h
  clear h f0 f1 f2 f3 c3
  cases bad with
  | true =>
    go_enter Tryz.func125, Tryz.ntmps125
    go_wp2_with fail
    go_quiet (fail)
    go_wp2
    go_ret
    exact ⟨rfl, _, rfl⟩
  | false =>
    by_cases hlt : a < s.size
    · have d1 : decide ((a : Int) < (s.size : Int)) = true := by simp; omega
      have hi : (a : Int) < (s.size : Int) := by omega
      have h256 : s[a].toNat < 256 := s[a].toNat_lt
      have HE : Hid (decide (s.data.toList[a]? = some (UInt8.ofNat c)) = ((s[a].toNat : Int) == (c : Int))) := by
        show _ = _
        have e : s.data.toList[a]? = some s[a] := by
          rw [List.getElem?_eq_getElem (by simpa using hlt)]; rfl
        rw [e]
        by_cases h : s[a].toNat = c
        · have : s[a] = UInt8.ofNat c := by apply UInt8.toNat_inj.1; rw [UInt8.toNat_ofNat']; omega
          simp [this]
          omega
        · have h2 : ¬ s[a] = UInt8.ofNat c := by
            intro e2
            apply h
            rw [e2, UInt8.toNat_ofNat']
            omega
          simp [h2]
          omega
      go_enter Tryz.func125, Tryz.ntmps125
      go_wp2_with fail
      go_quiet (fail)
      go_wp2
      go_ret
      refine ⟨?_, _, rfl⟩
      rw [HE.out]
      rfl
    · have d1 : decide ((a : Int) < (s.size : Int)) = false := by simp; omega
      have HE : Hid (decide (s.data.toList[a]? = some (UInt8.ofNat c)) = false) := by
        show _ = _
        rw [List.getElem?_eq_none (by simp; omega)]
        simp
      go_enter Tryz.func125, Tryz.ntmps125
      go_wp2_with fail
      go_quiet (fail)
      go_wp2
      go_ret
      refine ⟨?_, _, rfl⟩
      rw [HE.out]
      rfl
end PartRdA
section PartFrm
open Go.RowKit

/-- All but the memory is as it was. -/
def Env (w w' : World) : Prop := w'.os = w.os ∧ w'.tape = w.tape ∧ w'.output = w.output
theorem Env.refl (w : World) : Env w w := ⟨rfl, rfl, rfl⟩
theorem Env.trans {w w1 w2 : World} (h : Env w w1) (k : Env w1 w2) : Env w w2 := ⟨k.1.trans h.1, k.2.1.trans h.2.1, k.2.2.trans h.2.2⟩
/-- A frame: what lies below B, and from C on, is as it was. -/
def FM (B C : Nat) (w w' : World) : Prop := Env w w' ∧ w.heap.size ≤ w'.heap.size ∧ ∀ k, k < w.heap.size → (k < B ∨ C ≤ k) → w'.heap[k]? = w.heap[k]?
theorem FM.refl (B C : Nat) (w : World) : FM B C w w := ⟨Env.refl w, Nat.le_refl _, fun _ _ _ => rfl⟩
theorem FM.set {B C : Nat} {w w' : World} (h : FM B C w w') (r o : Nat) (u : Value) (h1 : B ≤ r) (h2 : r < C) : FM B C w (w'.setCell ⟨r, o, none⟩ u) :=
  ⟨h.1, by simpa [World.setCell] using h.2.1, fun k hk hkk => by rw [Below.heap_setCell _ _ _ _ (by show k ≠ r; omega)]; exact h.2.2 k hk hkk⟩
theorem FM.up {B C : Nat} {w w' w2 : World} (h : FM B C w w') (hb : Below w'.heap.size w' w2) : FM B C w w2 :=
  ⟨h.1.trans ⟨hb.os, hb.tape, hb.output⟩, Nat.le_trans h.2.1 hb.size, fun k hk hkk => (hb.block k (Nat.lt_of_lt_of_le hk h.2.1)).trans (h.2.2 k hk hkk)⟩
theorem FM.below {B C : Nat} {w w' : World} (h : FM B C w w') (hB : B ≤ w.heap.size) : Below B w w' := ⟨h.1.1, h.1.2.1, h.1.2.2, h.2.1, fun k hk => h.2.2 k (by omega) (.inl hk)⟩
end PartFrm
section PartRdB
open Go.RowKit

/-- The row of n pieces, their cells cs, in the reader's own memory from block B on. -/
def PR (B : Nat) (w : World) (v : Value) (n : Nat) (cs : List Value) : Prop := w.ownsRow B 185 3 v n cs

theorem set3 {w : World} {g : Nat} {a b c d : Value} {t : TypeId} (h : w.heap[g]? = some (.cells #[a, b, c, d] t (0, 0))) (u : Value) : (w.setCell ⟨g, 3, none⟩ u).heap[g]? = some (.cells #[a, b, c, u] t (0, 0)) := by
  simp [World.setCell, Array.getElem?_modify, h]
theorem set2' {w : World} {g : Nat} {a b c d : Value} {t : TypeId} (h : w.heap[g]? = some (.cells #[a, b, c, d] t (0, 0))) (u : Value) : (w.setCell ⟨g, 2, none⟩ u).heap[g]? = some (.cells #[a, b, u, d] t (0, 0)) := by
  simp [World.setCell, Array.getElem?_modify, h]

theorem PR.far {B g : Nat} {w : World} {v : Value} {n : Nat} {cs : List Value} (h : PR B w v n cs) (hg : g < B) : v.ownBlock ≠ some g := by
  intro e
  have := (World.ownsRow.lt h g e).1
  omega

/-- A store into the reader itself leaves the row as it was. -/
theorem PR.set {B g : Nat} {w : World} {v : Value} {n : Nat} {cs : List Value} (h : PR B w v n cs) (hg : g < B) (o : Nat) (u : Value) : PR B (w.setCell ⟨g, o, none⟩ u) v n cs := by
  refine ⟨h.1, ?_⟩
  rcases h.2 with hn | ⟨g2, cap2, cur, hv2, hb2, hc2, rest⟩
  · exact .inl hn
  · refine .inr ⟨g2, cap2, cur, hv2, hb2, ?_, rest⟩
    rw [Below.heap_setCell _ _ _ _ (by show g2 ≠ g; omega)]
    exact hc2

/-- One piece more, at a step of a sentence that draws its order. -/
theorem PR.step {ops : Array Oper} {o : Oper} {a : Act} {K : Act → World → Prop} {Q : Exit → Act → World → Prop} {E : Prop} {B : Nat} {w : World} {v : Value} {n : Nat} {cs : List Value}
    (hown : PR B w v n cs) (hgd : o.guard = none) (s x : Operand)
    (ho : o.op = .call { callee := .builtin .append, args := #[s, x], argTypes := #[141, 141] })
    (hs : a.eval s = v) (c1 c2 c3 : Value) (k1 : c1.oneCell' = true) (k2 : c2.oneCell' = true) (k3 : c3.oneCell' = true) (o1 : Obj) (hx : a.eval x = .slice (some ⟨w.heap.size + 1, 0, none⟩) 1 1)
    (hlen : n ≤ 1000) (hB : B ≤ w.heap.size)
    (h : ∀ q cap w', PR B w' (.slice (some ⟨q, 0, none⟩) (n + 1) cap) (n + 1) (cs ++ [c1, c2, c3]) → w.heap.size ≤ w'.heap.size → (v.ownBlock = some q ∨ w.heap.size ≤ q) → q < w'.heap.size → Below B w w' →
      (∀ ad u, w.cell? ad = some u → v.ownBlock ≠ some ad.block → w'.cell? ad = some u) → (∀ k, k < w.heap.size → v.ownBlock ≠ some k → w'.heap[k]? = w.heap[k]?) → K (a.put o.dst (.slice (some ⟨q, 0, none⟩) (n + 1) cap)) w') :
    if Region.wanted o (yielded ops a.tmps) = true then Oper.wp Tryz.prog o a ((w.alloc o1).alloc (.cells #[c1, c2, c3] 185)).drew K Q else E := by
  obtain ⟨i0, hi, hy0, hy1, hy2⟩ := info_parts Tryz.infoP
  have hsz : ((w.alloc o1).alloc (.cells #[c1, c2, c3] 185)).drew.heap.size = w.heap.size + 2 := by simp
  refine step_append_lies _ hgd s x 141 ho B 185 i0 (.agg #[.int .i64 0, .string ByteArray.empty, .slice none 0 0]) 3 48 Tryz.underlying141 hi hy0 hy1 hy2 rfl (by decide) v n cs hs (World.ownsRow.drew (World.ownsRow.alloc (World.ownsRow.alloc hown _) _)) ⟨w.heap.size + 1, 0, none⟩ 1 1 [c1, c2, c3] hx rfl
    (World.news_of_block (cs := #[c1, c2, c3]) (t := 185) (fr := (0, 0)) ?_) ?_ (by omega) ?_ ?_ ?_ (w.heap.size + 2) hsz ?_
  · have := heap_alloc_new (w.alloc o1) (.cells #[c1, c2, c3] 185)
    have e : (w.alloc o1).heap.size = w.heap.size + 1 := by simp
    rw [e] at this
    exact this
  · intro u hu
    simp at hu
    rcases hu with rfl | rfl | rfl <;> assumption
  · unfold maxLen; omega
  · omega
  · omega
  · intro q cap w' h2 h3 h4 h5
    have hb0 : Below w.heap.size w ((w.alloc o1).alloc (.cells #[c1, c2, c3] 185)).drew := ((((Below.refl _ w).alloc (Nat.le_refl _) _).alloc (by simp) _).drew)
    have hs3 := h3.size
    refine h q cap w' h2 (by omega) (h4.imp id (fun e => by omega)) h5 ?_ ?_ ?_
    · exact (hb0.mono hB).grown h3 (by omega) (fun k hk => (World.ownsRow.lt hown k hk).1)
    · intro ad u hu hne
      have hlt := World.block_lt_of_cell? w _ hu
      refine h3.cell ((hb0.cell hlt).trans hu) ?_
      intro e; exact hne e.symm
    · intro k hk hne
      rw [h3.block k (by omega) (fun e => hne e.symm)]
      exact hb0.block k hk

set_option maxHeartbeats 2000000 in
set_option maxRecDepth 100000 in
theorem rdPut_any (B g a n op : Nat) (s t : ByteArray) (v : Value) (cs : List Value) (ka : Option Addr) (kl kc : Nat) (bad : Bool) (w : World) (h : Rd w g s a bad v) (hp : PR B w v n cs) (hn : n ≤ 1000) (hg : g < B) (hB : B ≤ w.heap.size) :
    Calls Tryz.prog 126 #[.pointer (some ⟨g, 0, none⟩), .agg #[.int .i64 (op : Int), .string t, .slice ka kl kc]] w fun e w' => ∃ v' : Value, e = .returned (.int .i64 (n : Int)) ∧ Rd w' g s a (bad || decide (60 < n + 1)) v' ∧ PR B w' v' (n + 1) (cs ++ [.int .i64 (op : Int), .string t, .slice ka kl kc]) ∧
      w.heap.size ≤ w'.heap.size ∧ (∀ k, k < w.heap.size → k ≠ g → v.ownBlock ≠ some k → w'.heap[k]? = w.heap[k]?) ∧ (∀ q, v'.ownBlock = some q → v.ownBlock = some q ∨ w.heap.size ≤ q) ∧ Env w w' := by
  obtain ⟨c0, c1, c2, c3, f0, f1, f2, f3⟩ := cells4 h
  have hgl : g < w.heap.size := by omega
  have hfar := hp.far hg
  go_enter Tryz.func126, Tryz.ntmps126
  go_wp2_with fail
  go_region_law ((refine PR.step hp (by rfl) _ _ (by rfl) (by rfl) _ _ _ (by rfl) (by rfl) (by rfl) _ (by rfl) (by omega) hB ?_; intro q cap w1 hp1 hs1 hq1 hq2 hb1 hk1 hh1; have hR1 := (hh1 g hgl hfar).trans h; obtain ⟨d0, d1, d2, d3, e0, e1, e2, e3⟩ := cells4 hR1))
  all_goals
    have hR2 := set3 hR1 (.slice (some ⟨q, 0, none⟩) (n + 1) cap)
    have hp2 := PR.set hp1 hg 3 (.slice (some ⟨q, 0, none⟩) (n + 1) cap)
    have hh2 : ∀ k, k < w.heap.size → k ≠ g → v.ownBlock ≠ some k → (w1.setCell ⟨g, 3, none⟩ (.slice (some ⟨q, 0, none⟩) (n + 1) cap)).heap[k]? = w.heap[k]? := by
      intro k hk hkg hkv
      rw [Below.heap_setCell _ _ _ _ (by show k ≠ g; exact hkg)]
      exact hh1 k hk hkv
    have hs2 : w.heap.size ≤ (w1.setCell ⟨g, 3, none⟩ (.slice (some ⟨q, 0, none⟩) (n + 1) cap)).heap.size := by simp [World.setCell]; omega
    have hen : Env w (w1.setCell ⟨g, 3, none⟩ (.slice (some ⟨q, 0, none⟩) (n + 1) cap)) := ⟨hb1.os, hb1.tape, hb1.output⟩
    obtain ⟨w2, hw2⟩ : ∃ w2, w2 = w1.setCell ⟨g, 3, none⟩ (.slice (some ⟨q, 0, none⟩) (n + 1) cap) := ⟨_, rfl⟩
    rw [← hw2] at hR2 hp2 hh2 hs2 hen ⊢
    have HEN : Hid (Env w w2) := hen
    have HP2 : Hid (PR B w2 (.slice (some ⟨q, 0, none⟩) (n + 1) cap) (n + 1) (cs ++ [.int .i64 (op : Int), .string t, .slice ka kl kc])) := hp2
    have HH2 : Hid (∀ k, k < w.heap.size → k ≠ g → v.ownBlock ≠ some k → w2.heap[k]? = w.heap[k]?) := hh2
    have HQ : Hid (∀ q', (Value.slice (some ⟨q, 0, none⟩) (n + 1) cap).ownBlock = some q' → v.ownBlock = some q' ∨ w.heap.size ≤ q') := by
      intro q' e
      have e2 : q = q' := by simpa [Value.ownBlock] using e
      rw [← e2]
      exact hq1
    clear hen hw2 hp2 hh2 hp1 hh1 hk1 hb1 hq1 hq2 d0 d1 d2 d3 e0 e1 e2 e3 c0 c1 c2 c3 f0 f1 f2 f3 hR1 h hp
    obtain ⟨d0, d1, d2, d3, e0, e1, e2, e3⟩ := cells4 hR2
    by_cases h60 : 60 < n + 1
    · have HB : Hid ((bad || decide (60 < n + 1)) = true) := by show _ = _; simp [h60]
      have dd : decide ((60 : Int) < (n : Int) + 1) = true := by simp; omega
      have HR3 : Hid (Rd (w2.setCell ⟨g, 2, none⟩ (.bool true)) g s a true (.slice (some ⟨q, 0, none⟩) (n + 1) cap)) := set2' hR2 (.bool true)
      go_wp2
      go_ret
      rw [HB.out]
      refine ⟨_, rfl, HR3.out, HP2.out.set hg 2 _, by simpa [World.setCell] using hs2, fun k hk hkg hkv => ?_, HQ.out, HEN.out⟩
      rw [Below.heap_setCell _ _ _ _ (by show k ≠ g; exact hkg)]
      exact HH2.out k hk hkg hkv
    · have HB : Hid ((bad || decide (60 < n + 1)) = bad) := by show _ = _; simp [h60]
      have dd : decide ((60 : Int) < (n : Int) + 1) = false := by simp; omega
      go_wp2
      go_ret
      rw [HB.out]
      exact ⟨_, rfl, hR2, HP2.out, hs2, HH2.out, HQ.out, HEN.out⟩
end PartRdB
end Go.Proofs.YtifbgdinjdgdfapGreatDoor
