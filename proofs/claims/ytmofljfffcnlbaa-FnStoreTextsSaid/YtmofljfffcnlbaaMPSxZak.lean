/- The cursor of a draw: what its byte answers, whatever the bytes of the draw are, and that nothing but the cursor is written. A new cursor over the bytes of a draw; numbers and texts that are drawn: each is some number or text within its bounds, and nothing that was there is written. Small laws for the walks: rows of strings that the call itself made. One of the texts of a list that is laid for the draw: some text of that list; and a drawn value. -/
import Derived.Test.YtmofljfffcnlbaaMPSxZag
import Derived.BigQuiet
import Derived.Deep.QuietTactic
import Derived.Test.YtmofljfffcnlbaaProg
import Derived.WalkKit
import Derived.WalkSpells
import Derived.WalkLawsBesides
import Derived.Handy
import Derived.Lib.Strings
import Derived.Deep.RegionHeld3
namespace Go.Proofs.Ytmofljfffcnlbaa
section PartDA
open Go.RowKit

theorem and_le (x : Int) (m : Nat) (hm : m < 2147483648) : 0 ≤ bits .and .i64 x (m : Int) ∧ bits .and .i64 x (m : Int) ≤ (m : Int) := by
  have e : bits .and .i64 x (m : Int) = IntKind.i64.wrap (((BitVec.ofInt 64 x &&& BitVec.ofInt 64 (m : Int)).toNat : Nat) : Int) := rfl
  have h1 : (BitVec.ofInt 64 x &&& BitVec.ofInt 64 (m : Int)).toNat ≤ m := by
    rw [BitVec.toNat_and]
    refine Nat.le_trans Nat.and_le_right ?_
    rw [BitVec.toNat_ofInt]
    omega
  rw [e, IntKind.wrap_i64]
  omega
theorem and_255 (x : Int) : 0 ≤ bits .and .i64 x 255 ∧ bits .and .i64 x 255 ≤ 255 := and_le x 255 (by decide)

/-- The cursor lies in block g, the bytes that it goes over in another; both below B. -/
structure Drw (B : Nat) (w : World) (g : Nat) (ad : Option Addr) (n cap : Nat) : Prop where
  cur : ∃ i : Nat, ∃ h : Int, i ≤ n ∧ w.heap[g]? = some (.cells #[.slice ad n cap, .int .i64 (i : Int), .int .i64 h] 73 (0, 0))
  low : g < B
  len : n ≤ 1048576
  code : 0 < n → ∃ b off, ad = some ⟨b, off, none⟩ ∧ b ≠ g ∧ b < B ∧ ∀ j, j < n → ∃ z : Nat, z < 256 ∧ w.cell? ⟨b, off + j, none⟩ = some (.int .u8 (z : Int))

theorem Drw.keep {B : Nat} {w w' : World} {g : Nat} {ad : Option Addr} {n cap : Nat} (h : Drw B w g ad n cap) (hb : Below B w w') : Drw B w' g ad n cap := by
  obtain ⟨⟨i, k, hi, hc⟩, hl, hn, hcode⟩ := h
  refine ⟨⟨i, k, hi, by rw [hb.block g hl]; exact hc⟩, hl, hn, fun h0 => ?_⟩
  obtain ⟨b, off, e, h1, h2, h3⟩ := hcode h0
  refine ⟨b, off, e, h1, h2, fun j hj => ?_⟩
  obtain ⟨z, hz, hc⟩ := h3 j hj
  exact ⟨z, hz, by rw [hb.cell (by exact h2)]; exact hc⟩
theorem grown_trans {w w1 w2 : World} {r : Option Nat} (h1 : w.grownBy w1 r) (h2 : w1.grownBy w2 r) : w.grownBy w2 r :=
  ⟨h2.os.trans h1.os, h2.tape.trans h1.tape, h2.output.trans h1.output, Nat.le_trans h1.size h2.size, fun k hk hne => (h2.block k (Nat.lt_of_lt_of_le hk h1.size) hne).trans (h1.block k hk hne)⟩
theorem grown_refl (w : World) (r : Option Nat) : w.grownBy w r := ⟨rfl, rfl, rfl, Nat.le_refl _, fun _ _ _ => rfl⟩
theorem grown_draw {w w1 : World} {r : Option Nat} (h : w.grownBy w1 r) (n : Nat) : w.grownBy (w1.drewN n) r := grown_trans h ⟨rfl, rfl, rfl, Nat.le_refl _, fun _ _ _ => rfl⟩
theorem grown_set {w w1 : World} {g : Nat} (h : w.grownBy w1 (some g)) (o : Nat) (u : Value) : w.grownBy (w1.setCell ⟨g, o, none⟩ u) (some g) :=
  grown_trans h ⟨rfl, rfl, rfl, by simp [World.setCell], fun k _ hne => Below.heap_setCell _ _ _ _ (by intro e; apply hne; rw [e])⟩

theorem cells3 {w : World} {g : Nat} {a b c : Value} {t : TypeId} (h : w.heap[g]? = some (.cells #[a, b, c] t (0, 0))) :
    w.cell? ⟨g, 0, none⟩ = some a ∧ w.cell? ⟨g, 1, none⟩ = some b ∧ w.cell? ⟨g, 2, none⟩ = some c ∧ w.frozen? ⟨g, 0, none⟩ = false ∧ w.frozen? ⟨g, 1, none⟩ = false ∧ w.frozen? ⟨g, 2, none⟩ = false := by
  refine ⟨?_, ?_, ?_, ?_, ?_, ?_⟩ <;> simp [World.cell?, World.frozen?, h]

theorem set2 {w : World} {g : Nat} {a b c : Value} {t : TypeId} (h : w.heap[g]? = some (.cells #[a, b, c] t (0, 0))) (u : Value) : (w.setCell ⟨g, 2, none⟩ u).heap[g]? = some (.cells #[a, b, u] t (0, 0)) := by
  simp [World.setCell, Array.getElem?_modify, h]
theorem set1 {w : World} {g : Nat} {a b c : Value} {t : TypeId} (h : w.heap[g]? = some (.cells #[a, b, c] t (0, 0))) (u : Value) : (w.setCell ⟨g, 1, none⟩ u).heap[g]? = some (.cells #[a, u, c] t (0, 0)) := by
  simp [World.setCell, Array.getElem?_modify, h]

theorem Drw.after {B : Nat} {w W : World} {g : Nat} {ad : Option Addr} {n cap : Nat} (hl : g < B) (hn : n ≤ 1048576)
    (hcode : 0 < n → ∃ b off, ad = some ⟨b, off, none⟩ ∧ b ≠ g ∧ b < B ∧ ∀ j, j < n → ∃ z : Nat, z < 256 ∧ w.cell? ⟨b, off + j, none⟩ = some (.int .u8 (z : Int)))
    (hg : w.grownBy W (some g)) (i : Nat) (h : Int) (hi : i ≤ n) (hc : W.heap[g]? = some (.cells #[.slice ad n cap, .int .i64 (i : Int), .int .i64 h] 73 (0, 0))) : Drw B W g ad n cap := by
  refine ⟨⟨i, h, hi, hc⟩, hl, hn, fun h0 => ?_⟩
  obtain ⟨b, off, e, h1, h2, h3⟩ := hcode h0
  refine ⟨b, off, e, h1, h2, fun j hj => ?_⟩
  obtain ⟨z, hz, hc⟩ := h3 j hj
  exact ⟨z, hz, hg.cell hc (by intro e; apply h1; simpa using e)⟩

set_option maxHeartbeats 1000000 in
set_option maxRecDepth 100000 in
theorem byte_any (B g n cap : Nat) (ad : Option Addr) (w : World) (hd : Drw B w g ad n cap) :
    Calls Try.prog 54 #[.pointer (some ⟨g, 0, none⟩)] w fun e w' => ∃ x : Nat, x < 256 ∧ e = .returned (.int .i64 (x : Int)) ∧ Drw B w' g ad n cap ∧ w.grownBy w' (some g) := by
  obtain ⟨⟨i, h, hi, hc⟩, hl, hn, hcode⟩ := hd
  obtain ⟨c0, c1, c2, f0, f1, f2⟩ := cells3 hc
  go_enter Try.func54, Try.ntmps54
  go_wp2
  obtain ⟨h2, hh2⟩ : ∃ h2, h2 = wrap64 (wrap64 (h * 6364136223846793005) + 1442695040888963407) := ⟨_, rfl⟩
  rw [← hh2]
  have hc2 := set2 hc (.int .i64 h2)
  have hg2 : w.grownBy (w.setCell ⟨g, 2, none⟩ (.int .i64 h2)) (some g) := grown_set (grown_refl _ _) 2 _
  obtain ⟨w2, hw2⟩ : ∃ w2, w2 = w.setCell ⟨g, 2, none⟩ (.int .i64 h2) := ⟨_, rfl⟩
  rw [← hw2] at hc2 hg2 ⊢
  clear hh2 hw2 c0 c1 c2 f0 f1 f2 hc
  obtain ⟨c0, c1, c2, f0, f1, f2⟩ := cells3 hc2
  have HG : Hid (w.grownBy w2 (some g)) := hg2
  clear hg2
  go_quiet (fail)
  go_wp2
  have hx := and_255 (bits .xor .i64 (h2 / 8589934592) (h2 / 35184372088832))
  generalize bits .and .i64 (bits .xor .i64 (h2 / 8589934592) (h2 / 35184372088832)) 255 = x at hx ⊢
  obtain ⟨x, rfl⟩ := Int.eq_ofNat_of_zero_le hx.1
  have hx2 : x ≤ 255 := by omega
  clear hx
  have HCO : Hid _ := hcode
  have hkeep : ∀ q, q < n → ∀ b off, ad = some ⟨b, off, none⟩ → b ≠ g → ∀ z : Value, w.cell? ⟨b, off + q, none⟩ = some z → w2.cell? ⟨b, off + q, none⟩ = some z := by
    intro q _ b off _ hbg z hz
    exact HG.out.cell hz (by intro e; apply hbg; simpa using e)
  by_cases hlt : i < n
  · obtain ⟨b, off, rfl, hbg, hbB, hz⟩ := hcode (by omega)
    obtain ⟨z, hz256, hzc⟩ := hz i hlt
    have hzc2 := hkeep i hlt b off rfl hbg _ hzc
    have hlt2 : (i : Int) < (n : Int) := by omega
    have HZ : Hid (∀ j, j < n → ∃ z : Nat, z < 256 ∧ w.cell? ⟨b, off + j, none⟩ = some (.int .u8 (z : Int))) := hz
    have HK : Hid _ := hkeep
    clear hcode hkeep hz hzc
    go_quiet (fail)
    go_wp2
    go_quiet (fail)
    go_wp2
    go_ret
    have hy := and_255 ((x : Int) + (z : Int))
    generalize bits .and .i64 ((x : Int) + (z : Int)) 255 = y at hy ⊢
    obtain ⟨y, rfl⟩ := Int.eq_ofNat_of_zero_le hy.1
    have hs := set1 hc2 (.int .i64 ((i : Int) + 1))
    exact ⟨y, by omega, rfl, Drw.after hl hn HCO.out (grown_set (grown_draw HG.out _) 1 _) (i + 1) h2 (by omega) hs, grown_set (grown_draw HG.out _) 1 _⟩
  · have hq : decide ((i : Int) < (n : Int)) = false := by simp; omega
    have HK : Hid _ := hkeep
    clear hcode hkeep
    go_quiet (fail)
    go_wp2
    go_ret
    exact ⟨x, by omega, rfl, Drw.after hl hn HCO.out (grown_draw (grown_draw HG.out _) _) i h2 hi hc2, grown_draw (grown_draw HG.out _) _⟩

set_option maxHeartbeats 1000000 in
set_option maxRecDepth 100000 in
/-- A number below m (m from 1 on). -/
theorem below_any (B g n cap : Nat) (ad : Option Addr) (m : Nat) (w : World) (hd : Drw B w g ad n cap) (hm : 0 < m) (hm2 : m ≤ 4294967296) :
    Calls Try.prog 31 #[.pointer (some ⟨g, 0, none⟩), .int .i64 (m : Int)] w fun e w' => ∃ x : Nat, x < m ∧ e = .returned (.int .i64 (x : Int)) ∧ Drw B w' g ad n cap ∧ w.grownBy w' (some g) := by
  have HD : Hid (Drw B w g ad n cap) := hd
  clear hd
  by_cases h256 : m ≤ 256
  · go_enter Try.func31, Try.ntmps31
    go_wp2_with fail
    refine (byte_any B g n cap ad w HD.out).mono ?_
    rintro e w1 ⟨x, hx, rfl, d1, g1⟩
    have D1 : Hid (Drw B w1 g ad n cap) := d1
    have G1 : Hid (w.grownBy w1 (some g)) := g1
    clear d1 g1
    have hmod : (x : Int) % (m : Int) = ((x % m : Nat) : Int) := by rw [Int.natCast_emod]
    have hlt := Nat.mod_lt x hm
    have HM : Hid ((x : Int) % (m : Int) = ((x % m : Nat) : Int)) := hmod
    clear hmod
    go_wp2
    go_ret
    exact ⟨x % m, hlt, (by show Ending.returned (.int .i64 ((x : Int) % (m : Int))) = _; rw [HM.out]), D1.out, G1.out⟩
  · go_enter Try.func31, Try.ntmps31
    go_wp2_with fail
    refine (byte_any B g n cap ad w HD.out).mono ?_
    rintro e w1 ⟨x1, hx1, rfl, d1, g1⟩
    have D1 : Hid (Drw B w1 g ad n cap) := d1
    have G1 : Hid (w.grownBy w1 (some g)) := g1
    clear d1 g1
    go_wp2_with fail
    refine (byte_any B g n cap ad w1 D1.out).mono ?_
    rintro e w2 ⟨x2, hx2, rfl, d2, g2⟩
    have D2 : Hid (Drw B w2 g ad n cap) := d2
    have G2 : Hid (w.grownBy w2 (some g)) := grown_trans G1.out g2
    clear d2 g2
    go_wp2_with fail
    refine (byte_any B g n cap ad w2 D2.out).mono ?_
    rintro e w3 ⟨x3, hx3, rfl, d3, g3⟩
    have D3 : Hid (Drw B w3 g ad n cap) := d3
    have G3 : Hid (w.grownBy w3 (some g)) := grown_trans G2.out g3
    clear d3 g3
    go_wp2_with fail
    refine (byte_any B g n cap ad w3 D3.out).mono ?_
    rintro e w4 ⟨x4, hx4, rfl, d4, g4⟩
    have D4 : Hid (Drw B w4 g ad n cap) := d4
    have G4 : Hid (w.grownBy w4 (some g)) := grown_trans G3.out g4
    clear d4 g4
    have HM : Hid (((x1 : Int) * 16777216 + (x2 : Int) * 65536 + (x3 : Int) * 256 + (x4 : Int)) % (m : Int) = (((x1 * 16777216 + x2 * 65536 + x3 * 256 + x4) % m : Nat) : Int)) := by
      show _ = _
      rw [Int.natCast_emod]
      congr 1
    have hlt := Nat.mod_lt (x1 * 16777216 + x2 * 65536 + x3 * 256 + x4) hm
    have HL : Hid _ := hlt
    clear hlt
    go_wp2
    go_ret
    exact ⟨(x1 * 16777216 + x2 * 65536 + x3 * 256 + x4) % m, HL.out, (by show Ending.returned (.int .i64 (((x1 : Int) * 16777216 + (x2 : Int) * 65536 + (x3 : Int) * 256 + (x4 : Int)) % (m : Int))) = _; rw [HM.out]), D4.out, G4.out⟩
end PartDA
section PartDB
open Go.RowKit

/-- The bytes of a draw, in a slice that came in. -/
def Code (w : World) (ad : Option Addr) (n : Nat) : Prop :=
  0 < n → ∃ b off, ad = some ⟨b, off, none⟩ ∧ b < w.heap.size ∧ ∀ j, j < n → ∃ z : Nat, z < 256 ∧ w.cell? ⟨b, off + j, none⟩ = some (.int .u8 (z : Int))
theorem Code.keep {w w' : World} {ad : Option Addr} {n : Nat} (h : Code w ad n) (hb : Below w.heap.size w w') : Code w' ad n := by
  intro h0
  obtain ⟨b, off, e, h1, h2⟩ := h h0
  refine ⟨b, off, e, Nat.lt_of_lt_of_le h1 hb.size, fun j hj => ?_⟩
  obtain ⟨z, hz, hc⟩ := h2 j hj
  exact ⟨z, hz, by rw [hb.cell (by exact h1)]; exact hc⟩
theorem below_of_grown {B : Nat} {w w' : World} {g : Nat} (h : w.grownBy w' (some g)) (hB : B ≤ g) (hg : g < w.heap.size) : Below B w w' :=
  (Below.refl B w).grown h (by omega) (fun k hk => by cases hk; exact hB)
theorem Drw.lt {B : Nat} {w : World} {g : Nat} {ad : Option Addr} {n cap : Nat} (h : Drw B w g ad n cap) : g < w.heap.size := by
  obtain ⟨i, k, _, hc⟩ := h.cur
  exact (Array.getElem?_eq_some_iff.1 hc).1

theorem Drw.made (w : World) (ad : Option Addr) (n cap : Nat) (x : Int) (hn : n ≤ 1048576) (hc : Code w ad n) :
    Drw (w.heap.size + 1) (w.alloc (.cells #[.slice ad n cap, .int .i64 0, .int .i64 x] 73)) w.heap.size ad n cap := by
  refine ⟨⟨0, x, by omega, heap_alloc_new w _⟩, by omega, hn, fun h0 => ?_⟩
  obtain ⟨b, off, e, h1, h2⟩ := hc h0
  refine ⟨b, off, e, by omega, by omega, fun j hj => ?_⟩
  obtain ⟨z, hz, hc⟩ := h2 j hj
  exact ⟨z, hz, by rw [((Below.refl w.heap.size w).alloc (Nat.le_refl _) _).cell (by exact h1)]; exact hc⟩

set_option maxHeartbeats 1000000 in
set_option maxRecDepth 100000 in
theorem new_any (ad : Option Addr) (n cap : Nat) (w : World) (hn : n ≤ 1048576) (hc : Code w ad n) :
    Calls Try.prog 13 #[.slice ad n cap] w fun e w' => e = .returned (.pointer (some ⟨w.heap.size, 0, none⟩)) ∧ Drw (w.heap.size + 1) w' w.heap.size ad n cap ∧ w'.heap.size = w.heap.size + 1 ∧ Below w.heap.size w w' := by
  have HC : Hid (Code w ad n) := hc
  clear hc
  go_enter Try.func13, Try.ntmps13
  go_wp2
  go_loop [3, 4] (fun h i => ∃ (k : Nat) (x : Int), i = .int .i64 (k : Int) ∧ h = .int .i64 x ∧ k ≤ n ∧ 0 ≤ x ∧ x ≤ 1073741823) (fun _ i => n - (intOf i).toNat)
  case atStart => exact ⟨0, _, rfl, rfl, by omega, by omega, by omega⟩
  case round =>
    obtain ⟨k, x, rfl, rfl, hk, hx0, hx1⟩ := hrel
    by_cases hlt : k < n
    · by_cases h4 : k < 4000
      · have d4 : decide ((k : Int) < 4000) = true := by simp; omega
        obtain ⟨b, off, hadr, _, hz⟩ := HC.out (by omega)
        obtain ⟨z, hz256, hzc⟩ := hz k hlt
        have HZ : Hid _ := hz
        clear hz
        have hlt2 : (k : Int) < (n : Int) := by omega
        have hy := and_le (x * 131 + (z : Int) + 7) 1073741823 (by decide)
        have HY : Hid (0 ≤ bits .and .i64 (x * 131 + (z : Int) + 7) 1073741823 ∧ bits .and .i64 (x * 131 + (z : Int) + 7) 1073741823 ≤ 1073741823) := hy
        clear hy
        subst hadr
        go_wp2
        go_round
        case rel => exact ⟨k + 1, _, by go_num, rfl, by omega, HY.out.1, HY.out.2⟩
        case measure => simp [intOf]; omega
      · have d4 : decide ((k : Int) < 4000) = false := by simp; omega
        go_wp2
        go_ret
        exact ⟨rfl, Drw.made w ad n cap x hn HC.out, by simp, (Below.refl _ _).alloc (Nat.le_refl _) _⟩
    · go_wp2
      go_ret
      exact ⟨rfl, Drw.made w ad n cap x hn HC.out, by simp, (Below.refl _ _).alloc (Nat.le_refl _) _⟩
end PartDB
section PartKS
open Go.RowKit

/-- A text as a value. -/
def sv (l : List UInt8) : Value := .string ⟨l.toArray⟩
theorem Try.infoS : (Try.prog.info? 9).map (fun i => (i.zero, i.size, i.bytes)) = some (some (.string ByteArray.empty), 1, 16) := by kernel_rfl

/-- The row of the texts ws, in the call's own memory from block B on. -/
def SRow (B : Nat) (w : World) (v : Value) (ws : List (List UInt8)) : Prop := w.ownsRow B 9 1 v ws.length (ws.map sv)

theorem SRow.nil (B : Nat) (w : World) : SRow B w (.slice none 0 0) [] := World.ownsRow_nil _ _ _ _
theorem SRow.none {B : Nat} (w : World) (hb : B ≤ w.heap.size) : SRow B (w.alloc (.cells #[] 9)) (.slice (some ⟨w.heap.size, 0, Option.none⟩) 0 0) [] :=
  World.ownsRow_made w #[] 0 hb (by decide) rfl
theorem SRow.alloc {B : Nat} {w : World} {v : Value} {ws : List (List UInt8)} (h : SRow B w v ws) (o : Obj) : SRow B (w.alloc o) v ws := World.ownsRow.alloc h o
/-- What is done above leaves the row as it was. -/
theorem SRow.keep {B : Nat} {w w' : World} {v : Value} {ws : List (List UInt8)} (h : SRow B w v ws) (hb : Below w.heap.size w w') : SRow B w' v ws := by
  refine ⟨h.1, ?_⟩
  rcases h.2 with hn | ⟨g, cap, cur, rfl, h1, hg, rest⟩
  · exact .inl hn
  · refine .inr ⟨g, cap, cur, rfl, h1, ?_, rest⟩
    rw [hb.block g (Array.getElem?_eq_some_iff.1 hg).1]
    exact hg
theorem SRow.store {B : Nat} {w : World} {g cap n : Nat} {ws : List (List UInt8)} (h : SRow B w (.slice (some ⟨g, 0, Option.none⟩) n cap) ws) (hn : ws.length = n) (j : Nat) (c : List UInt8) :
    SRow B (w.setCell ⟨g, j, Option.none⟩ (.string ⟨c.toArray⟩)) (.slice (some ⟨g, 0, Option.none⟩) n cap) (ws.set j c) := by
  subst hn
  have := (World.ownsRow.stored h j (sv c)).1
  unfold SRow
  rw [List.map_set, List.length_set]
  exact this

theorem SRow.cell {B : Nat} {w : World} {g cap n : Nat} {ws : List (List UInt8)} (h : SRow B w (.slice (some ⟨g, 0, Option.none⟩) n cap) ws) (hn : ws.length = n) (j : Nat) (hj : j < n) : w.cell? ⟨g, j, Option.none⟩ = some (.string ⟨(ws.getD j []).toArray⟩) := by
  subst hn
  rw [World.ownsRow.cellAt h j (by omega)]
  simp [hj, sv]
theorem SRow.free {B : Nat} {w : World} {g cap n : Nat} {ws : List (List UInt8)} (h : SRow B w (.slice (some ⟨g, 0, Option.none⟩) n cap) ws) (hn : ws.length = n) (j : Nat) : w.frozen? ⟨g, j, Option.none⟩ = false := by
  subst hn
  exact World.ownsRow.frozenAt h j

/-- One text more. -/
theorem SRow.push {ops : Array Oper} {rest : List Oper} {o : Oper} {a : Act} {Q : Exit → Act → World → Prop} {B : Nat} {w : World} {v : Value} {ws : List (List UInt8)}
    (hown : SRow B w v ws) (hgd : o.guard = Option.none) (s x : Operand)
    (ho : o.op = .call { callee := .builtin .append, args := #[s, x], argTypes := #[70, 70] })
    (hs : a.eval s = v) (z : ByteArray) (c : List UInt8) (hz : z = ⟨c.toArray⟩) (hx : a.eval x = .slice (some ⟨w.heap.size, 0, Option.none⟩) 1 1)
    (hlen : ws.length < 1000000000) (hB : B ≤ w.heap.size)
    (h : ∀ v' w', SRow B w' v' (ws ++ [c]) → Below B w w' → wpList Try.prog ops Q rest (a.put o.dst v') w') :
    wpList Try.prog ops Q (o :: rest) a (w.alloc (.cells #[.string z] 9)) := by
  subst hz
  obtain ⟨i0, hi, hz0, hz1, hz2⟩ := info_parts Try.infoS
  refine wpList_append_own _ hgd s x 70 ho B 9 i0 (.string ByteArray.empty) 1 16 Try.underlying70 hi hz0 hz1 hz2 rfl (by decide) v ws.length (ws.map sv) hs (hown.alloc _) ⟨w.heap.size, 0, Option.none⟩ 1 1 [sv c] hx rfl (cell_one_new _ _ _) ?_ ?_ ?_ ?_ ?_
  · intro u hu; simp at hu; subst hu; rfl
  · unfold maxLen; omega
  · omega
  · simp; omega
  · intro v' w' h2 h3 _
    refine h v' w' ?_ ?_
    · unfold SRow; simpa using h2
    · exact ((Below.refl B w).alloc hB _).grown h3 (by simp; omega) (fun k hk => (hown.lt k hk).1)
end PartKS
section PartDPs
open Go.RowKit

set_option maxHeartbeats 1000000 in
set_option maxRecDepth 100000 in
/-- One of the texts of a list. -/
theorem pickS_any (B g n cap : Nat) (ad : Option Addr) (q m : Nat) (ts : List (List UInt8)) (w : World) (hd : Drw B w g ad n cap) (hq : q ≠ g) (hm : 0 < m) (hm2 : m ≤ 4294967296) (hl : ts.length = m)
    (hz : ∀ j, j < m → w.cell? ⟨q, j, none⟩ = some (sv (ts.getD j []))) :
    Calls Try.prog 32 #[.pointer (some ⟨g, 0, none⟩), .slice (some ⟨q, 0, none⟩) m m] w fun e w' => ∃ t : List UInt8, t ∈ ts ∧ e = .returned (.string ⟨t.toArray⟩) ∧ Drw B w' g ad n cap ∧ w.grownBy w' (some g) := by
  have HD : Hid (Drw B w g ad n cap) := hd
  have HZ : Hid (∀ j, j < m → w.cell? ⟨q, j, none⟩ = some (sv (ts.getD j []))) := hz
  clear hd hz
  go_enter Try.func32, Try.ntmps32
  go_wp2_with fail
  refine (below_any B g n cap ad m w HD.out hm hm2).mono ?_
  rintro e w1 ⟨x, hx, rfl, d1, g1⟩
  have D1 : Hid (Drw B w1 g ad n cap) := d1
  have G1 : Hid (w.grownBy w1 (some g)) := g1
  have hc1 : w1.cell? ⟨q, x, none⟩ = some (.string ⟨(ts.getD x []).toArray⟩) := g1.cell (HZ.out x hx) (by intro e; apply hq; simpa using e)
  clear d1 g1
  have hx2 : (x : Int) < (m : Int) := by omega
  have HMEM : Hid (ts.getD x [] ∈ ts) := by
    show _ ∈ _
    rw [List.getD_eq_getElem?_getD, List.getElem?_eq_getElem (by omega)]
    exact List.getElem_mem _
  generalize ts.getD x [] = t at *
  go_wp2
  go_ret
  exact ⟨t, HMEM.out, rfl, D1.out, G1.out⟩
/-- The same, of a list that was just laid. -/
theorem pickL_any (B g n cap : Nat) (ad : Option Addr) (ts : List (List UInt8)) (w : World) (hd : Drw B w g ad n cap) (hB : B ≤ w.heap.size) (hm : 0 < ts.length) (hm2 : ts.length ≤ 4294967296) :
    Calls Try.prog 32 #[.pointer (some ⟨g, 0, none⟩), .slice (some ⟨w.heap.size, 0, none⟩) ts.length ts.length] (w.alloc (.cells (ts.map sv).toArray 9))
      fun e w' => ∃ t : List UInt8, t ∈ ts ∧ e = .returned (.string ⟨t.toArray⟩) ∧ Drw B w' g ad n cap ∧ w.grownBy w' (some g) := by
  have hl := hd.low
  have hb : Below B w (w.alloc (.cells (ts.map sv).toArray 9)) := (Below.refl _ _).alloc hB _
  have hc : ∀ j, j < ts.length → (w.alloc (.cells (ts.map sv).toArray 9)).cell? ⟨w.heap.size, j, none⟩ = some (sv (ts.getD j [])) := by
    intro j hj
    rw [cell_of_row _ w.heap.size j _ 9 (0, 0) (heap_alloc_new w _)]
    simp [hj]
  refine (pickS_any B g n cap ad w.heap.size ts.length ts _ (hd.keep hb) (by omega) hm hm2 rfl hc).mono ?_
  rintro e w' ⟨t, h1, h2, h3, h4⟩
  exact ⟨t, h1, h2, h3, grown_trans (World.grownBy_alloc w _ _) h4⟩
end PartDPs
end Go.Proofs.Ytmofljfffcnlbaa
