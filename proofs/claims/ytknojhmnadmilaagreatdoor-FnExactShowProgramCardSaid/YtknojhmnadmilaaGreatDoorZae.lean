/- Programs in memory: two of the same programs are told the same. The specification's reader of a pattern: what it holds, and its two tests. Frames: what of a world is as it was. -/
import Derived.Test.YtknojhmnadmilaaGreatDoorZad
import Derived.Test.YtknojhmnadmilaaGreatDoorZab
import Derived.Test.YtknojhmnadmilaaGreatDoorProg
import Derived.Test.YtknojhmnadmilaaGreatDoorZaa
import Derived.WalkKit
import Derived.WalkSpells
import Derived.WalkLawsBesides
import Derived.Handy
import Derived.Lib.Strings
import Derived.BigQuiet
import Derived.Deep.QuietTactic
import Derived.Below
namespace Go.Proofs.YtknojhmnadmilaaGreatDoor
section PartLgF
open Go.RowKit

set_option maxHeartbeats 800000 in
theorem eqRule_any (x y z : Int) (w : World) :
    Calls Tryz.prog 41 #[.agg #[.int .i64 x, .int .i64 y, .int .i64 z], .agg #[.int .i64 x, .int .i64 y, .int .i64 z]] w fun e w' => e = .returned (.bool true) ∧ Below w.heap.size w w' := by
  have hx : (x != x) = false := by simp
  have hy : (y != y) = false := by simp
  have hz : (z != z) = false := by simp
  go_enter Tryz.func41, Tryz.ntmps41
  go_wp2
  go_ret
  exact ⟨rfl, ((Below.refl _ _).alloc (Nat.le_refl _) _).alloc (by simp) _⟩

set_option maxHeartbeats 2000000 in
theorem eqRules_any (v1 v2 : Value) (rs : List Pg.Rl) (w : World) (h1 : RlsAt w v1 rs) (h2 : RlsAt w v2 rs) (hl : rs.length ≤ 1048576) :
    Calls Tryz.prog 24 #[v1, v2] w fun e w' => e = .returned (.bool true) ∧ Below w.heap.size w w' := by
  obtain ⟨a1, c1, rfl, f1⟩ := h1
  obtain ⟨a2, c2, rfl, f2⟩ := h2
  obtain ⟨n, hn⟩ : ∃ n, n = rs.length := ⟨_, rfl⟩
  rw [← hn] at f1 f2 hl ⊢
  have hq : ((n : Int) != (n : Int)) = false := by simp
  by_cases h0 : n = 0
  · subst h0
    clear f1 f2 hn
    go_enter Tryz.func24, Tryz.ntmps24
    go_wp2
    refine wp_loop_rounds 1 ?_
    rw [rounds_succ]
    go_wp2
    go_ret
    exact ⟨rfl, Below.refl _ _⟩
  · obtain ⟨g1, o1, rfl, l1, k1⟩ := f1 (by omega)
    obtain ⟨g2, o2, rfl, l2, k2⟩ := f2 (by omega)
    have K1 : Hid (∀ i, i < n → w.cell? ⟨g1, o1 + i * 3, none⟩ = some (.int .i64 (rs.getD i Pg.Rl.no).when) ∧ w.cell? ⟨g1, o1 + i * 3 + 1, none⟩ = some (.int .i64 (rs.getD i Pg.Rl.no).cond) ∧ w.cell? ⟨g1, o1 + i * 3 + 2, none⟩ = some (.int .i64 (rs.getD i Pg.Rl.no).act)) := k1
    have K2 : Hid (∀ i, i < n → w.cell? ⟨g2, o2 + i * 3, none⟩ = some (.int .i64 (rs.getD i Pg.Rl.no).when) ∧ w.cell? ⟨g2, o2 + i * 3 + 1, none⟩ = some (.int .i64 (rs.getD i Pg.Rl.no).cond) ∧ w.cell? ⟨g2, o2 + i * 3 + 2, none⟩ = some (.int .i64 (rs.getD i Pg.Rl.no).act)) := k2
    clear k1 k2 f1 f2 hn
    go_enter Tryz.func24, Tryz.ntmps24
    go_wp2
    go_loopw [5] (fun i wr => ∃ k : Nat, i = .int .i64 (k : Int) ∧ k ≤ n ∧ Below w.heap.size w wr) (fun i _ => n - (intOf i).toNat)
    case atStart => exact ⟨0, rfl, by omega, Below.refl _ _⟩
    case round =>
      obtain ⟨k, rfl, hk, hbel⟩ := hrel
      have hsz := hbel.size
      by_cases hlt : k < n
      · have q1 := K1.out k hlt
        have q2 := K2.out k hlt
        obtain ⟨p, hp⟩ : ∃ p, p = rs.getD k Pg.Rl.no := ⟨_, rfl⟩
        rw [← hp] at q1 q2
        clear hp
        have x0 := (hbel.cell l1).trans q1.1
        have x1 := (hbel.cell l1).trans q1.2.1
        have x2 := (hbel.cell l1).trans q1.2.2
        have z0 := (hbel.cell l2).trans q2.1
        have z1 := (hbel.cell l2).trans q2.2.1
        have z2 := (hbel.cell l2).trans q2.2.2
        obtain ⟨px, py, pz⟩ := p
        simp only at x0 x1 x2 z0 z1 z2
        have CC : Hid (∀ w', Calls Tryz.prog 41 #[.agg #[.int .i64 px, .int .i64 py, .int .i64 pz], .agg #[.int .i64 px, .int .i64 py, .int .i64 pz]] w' fun e w'' => e = .returned (.bool true) ∧ Below w'.heap.size w' w'') := fun w' => eqRule_any px py pz w'
        clear q1 q2
        have i1 : (k : Int) < (n : Int) := by omega
        have i0 : (0 : Int) ≤ (k : Int) := by omega
        go_wp2_with fail
        go_region_with ((go_at_call 41; refine (CC.out _).mono ?_; rintro e w1 ⟨rfl, hb1⟩))
        all_goals
          go_wp2
          go_roundw
          case rel => exact ⟨k + 1, by go_num, by omega, hbel.trans (((Below.refl _ _).drew.trans hb1).mono hsz)⟩
          case measure => simp [intOf]; omega
      · go_wp2
        go_ret
        exact ⟨rfl, hbel⟩

set_option maxHeartbeats 800000 in
theorem eqProg_any (v1 r1 v2 r2 : Value) (ps : List Pi) (rs : List Pg.Rl) (w : World) (h1 : PcsAt w v1 ps) (g1 : RlsAt w r1 rs) (h2 : PcsAt w v2 ps) (g2 : RlsAt w r2 rs) (hl : ps.length ≤ 1048576) (hs : Small ps ps.length) (hlr : rs.length ≤ 1048576) :
    Calls Tryz.prog 8 #[.agg #[v1, r1], .agg #[v2, r2]] w fun e w' => e = .returned (.bool true) ∧ Below w.heap.size w w' := by
  have CC : Hid (∀ w', Below w.heap.size w w' → Calls Tryz.prog 23 #[v1, v2] w' fun e w'' => e = .returned (.bool true) ∧ Below w'.heap.size w' w'') := fun w' hb => eqNodes_any v1 v2 ps w' (h1.keep hb) (h2.keep hb) hl hs
  have CR : Hid (∀ w', Below w.heap.size w w' → Calls Tryz.prog 24 #[r1, r2] w' fun e w'' => e = .returned (.bool true) ∧ Below w'.heap.size w' w'') := fun w' hb => eqRules_any r1 r2 rs w' (g1.keep hb) (g2.keep hb) hlr
  obtain ⟨a1, c1, rfl, -⟩ := h1
  obtain ⟨a2, c2, rfl, -⟩ := h2
  obtain ⟨d1, e1, rfl, -⟩ := g1
  obtain ⟨d2, e2, rfl, -⟩ := g2
  have HB : Hid (Below w.heap.size w ((w.alloc (.cells #[.slice a1 ps.length c1, .slice d1 rs.length e1] 32)).alloc (.cells #[.slice a2 ps.length c2, .slice d2 rs.length e2] 32))) := ((Below.refl _ _).alloc (Nat.le_refl _) _).alloc (by simp) _
  go_enter Tryz.func8, Tryz.ntmps8
  go_wp2_with fail
  refine (CC.out _ HB.out).mono ?_
  rintro e w1 ⟨rfl, hb1⟩
  have x1 : w1.cell? ⟨w.heap.size, 1, none⟩ = some (.slice d1 rs.length e1) := (hb1.cell (by simp; omega)).trans (by simp)
  have x2 : w1.cell? ⟨w.heap.size + 1, 1, none⟩ = some (.slice d2 rs.length e2) := (hb1.cell (by simp)).trans (by simp)
  have HB1 : Hid (Below w.heap.size w w1) := HB.out.trans (hb1.mono (by simp; omega))
  clear hb1 CC
  go_wp2_with fail
  refine (CR.out _ HB1.out).mono ?_
  rintro e w2 ⟨rfl, hb2⟩
  go_wp2
  go_ret
  exact ⟨rfl, HB1.out.trans (hb2.mono HB1.out.size)⟩
end PartLgF
section PartRdA
open Go.RowKit

/-- What the reader holds, in block g: its text, its place, whether it is bad, its pieces. -/
def Rd (w : World) (g : Nat) (s : ByteArray) (a : Nat) (bad : Bool) (v : Value) : Prop :=
  w.heap[g]? = some (.cells #[.string s, .int .i64 (a : Int), .bool bad, v] 136 (0, 0))
theorem cells4 {w : World} {g : Nat} {a b c d : Value} {t : TypeId} (h : w.heap[g]? = some (.cells #[a, b, c, d] t (0, 0))) :
    w.cell? ⟨g, 0, none⟩ = some a ∧ w.cell? ⟨g, 1, none⟩ = some b ∧ w.cell? ⟨g, 2, none⟩ = some c ∧ w.cell? ⟨g, 3, none⟩ = some d ∧
      w.frozen? ⟨g, 0, none⟩ = false ∧ w.frozen? ⟨g, 1, none⟩ = false ∧ w.frozen? ⟨g, 2, none⟩ = false ∧ w.frozen? ⟨g, 3, none⟩ = false := by
  refine ⟨?_, ?_, ?_, ?_, ?_, ?_, ?_, ?_⟩ <;> simp [World.cell?, World.frozen?, h]

set_option maxHeartbeats 1000000 in
set_option maxRecDepth 100000 in
/-- Is it the sign c that comes next? -/
theorem rdIs_any (g a c : Nat) (s : ByteArray) (bad : Bool) (v : Value) (w : World) (h : Rd w g s a bad v) (ha : a ≤ s.size) (hc : c < 256) :
    Calls Tryz.prog 71 #[.pointer (some ⟨g, 0, none⟩), .int .u8 (c : Int)] w fun e w' =>
      e = .returned (.bool (!bad && decide (s.data.toList[a]? = some (UInt8.ofNat c)))) ∧ ∃ k, w' = w.drewN k := by
  obtain ⟨c0, c1, c2, c3, f0, f1, f2, f3⟩ := cells4 h
  clear h f0 f1 f2 f3 c3
  cases bad with
  | true =>
    go_enter Tryz.func71, Tryz.ntmps71
    go_wp2_with fail
    go_quiet (fail)
    go_wp2
    go_ret
    exact ⟨rfl, _, rfl⟩
  | false =>
    by_cases hlt : a < s.size
    · have d1 : decide ((a : Int) < (s.size : Int)) = true := by simp; omega
      have hi : (a : Int) < (s.size : Int) := by omega
      have h256 : s[a].toNat < 256 := s[a].toNat_lt
      have HE : Hid (decide (s.data.toList[a]? = some (UInt8.ofNat c)) = ((s[a].toNat : Int) == (c : Int))) := by
        show _ = _
        have e : s.data.toList[a]? = some s[a] := by
          rw [List.getElem?_eq_getElem (by simpa using hlt)]; rfl
        rw [e]
        by_cases h : s[a].toNat = c
        · have : s[a] = UInt8.ofNat c := by apply UInt8.toNat_inj.1; rw [UInt8.toNat_ofNat']; omega
          simp [this]
          omega
        · have h2 : ¬ s[a] = UInt8.ofNat c := by
            intro e2
            apply h
            rw [e2, UInt8.toNat_ofNat']
            omega
          simp [h2]
          omega
      go_enter Tryz.func71, Tryz.ntmps71
      go_wp2_with fail
      go_quiet (fail)
      go_wp2
      go_ret
      refine ⟨?_, _, rfl⟩
      rw [HE.out]
      rfl
    · have d1 : decide ((a : Int) < (s.size : Int)) = false := by simp; omega
      have HE : Hid (decide (s.data.toList[a]? = some (UInt8.ofNat c)) = false) := by
        show _ = _
        rw [List.getElem?_eq_none (by simp; omega)]
        simp
      go_enter Tryz.func71, Tryz.ntmps71
      go_wp2_with fail
      go_quiet (fail)
      go_wp2
      go_ret
      refine ⟨?_, _, rfl⟩
      rw [HE.out]
      rfl
end PartRdA
section PartFrm
open Go.RowKit

/-- All but the memory is as it was. -/
def Env (w w' : World) : Prop := w'.os = w.os ∧ w'.tape = w.tape ∧ w'.output = w.output
theorem Env.refl (w : World) : Env w w := ⟨rfl, rfl, rfl⟩
theorem Env.trans {w w1 w2 : World} (h : Env w w1) (k : Env w1 w2) : Env w w2 := ⟨k.1.trans h.1, k.2.1.trans h.2.1, k.2.2.trans h.2.2⟩
/-- A frame: what lies below B, and from C on, is as it was. -/
def FM (B C : Nat) (w w' : World) : Prop := Env w w' ∧ w.heap.size ≤ w'.heap.size ∧ ∀ k, k < w.heap.size → (k < B ∨ C ≤ k) → w'.heap[k]? = w.heap[k]?
theorem FM.refl (B C : Nat) (w : World) : FM B C w w := ⟨Env.refl w, Nat.le_refl _, fun _ _ _ => rfl⟩
theorem FM.set {B C : Nat} {w w' : World} (h : FM B C w w') (r o : Nat) (u : Value) (h1 : B ≤ r) (h2 : r < C) : FM B C w (w'.setCell ⟨r, o, none⟩ u) :=
  ⟨h.1, by simpa [World.setCell] using h.2.1, fun k hk hkk => by rw [Below.heap_setCell _ _ _ _ (by show k ≠ r; omega)]; exact h.2.2 k hk hkk⟩
theorem FM.up {B C : Nat} {w w' w2 : World} (h : FM B C w w') (hb : Below w'.heap.size w' w2) : FM B C w w2 :=
  ⟨h.1.trans ⟨hb.os, hb.tape, hb.output⟩, Nat.le_trans h.2.1 hb.size, fun k hk hkk => (hb.block k (Nat.lt_of_lt_of_le hk h.2.1)).trans (h.2.2 k hk hkk)⟩
theorem FM.below {B C : Nat} {w w' : World} (h : FM B C w w') (hB : B ≤ w.heap.size) : Below B w w' := ⟨h.1.1, h.1.2.1, h.1.2.2, h.2.1, fun k hk => h.2.2 k (by omega) (.inl hk)⟩
end PartFrm
end Go.Proofs.YtknojhmnadmilaaGreatDoor
