/- The cursor of a draw: what its byte answers, whatever the bytes of the draw are, and that nothing but the cursor is written. A new cursor over the bytes of a draw; numbers and texts that are drawn: each is some number or text within its bounds, and nothing that was there is written. -/
import Derived.Test.YtjohhledpjmffaaZam
import Derived.BigQuiet
import Derived.Deep.QuietTactic
namespace Go.Proofs.Ytjohhledpjmffaa
section PartDA
open Go.RowKit

theorem and_le (x : Int) (m : Nat) (hm : m < 2147483648) : 0 ≤ bits .and .i64 x (m : Int) ∧ bits .and .i64 x (m : Int) ≤ (m : Int) := by
  have e : bits .and .i64 x (m : Int) = IntKind.i64.wrap (((BitVec.ofInt 64 x &&& BitVec.ofInt 64 (m : Int)).toNat : Nat) : Int) := rfl
  have h1 : (BitVec.ofInt 64 x &&& BitVec.ofInt 64 (m : Int)).toNat ≤ m := by
    rw [BitVec.toNat_and]
    refine Nat.le_trans Nat.and_le_right ?_
    rw [BitVec.toNat_ofInt]
    omega
  rw [e, IntKind.wrap_i64]
  omega
theorem and_255 (x : Int) : 0 ≤ bits .and .i64 x 255 ∧ bits .and .i64 x 255 ≤ 255 := and_le x 255 (by decide)

/-- The cursor lies in block g, the bytes that it goes over in another; both below B. -/
structure Drw (B : Nat) (w : World) (g : Nat) (ad : Option Addr) (n cap : Nat) : Prop where
  cur : ∃ i : Nat, ∃ h : Int, i ≤ n ∧ w.heap[g]? = some (.cells #[.slice ad n cap, .int .i64 (i : Int), .int .i64 h] 78 (0, 0))
  low : g < B
  len : n ≤ 1048576
  code : 0 < n → ∃ b off, ad = some ⟨b, off, none⟩ ∧ b ≠ g ∧ b < B ∧ ∀ j, j < n → ∃ z : Nat, z < 256 ∧ w.cell? ⟨b, off + j, none⟩ = some (.int .u8 (z : Int))

theorem Drw.keep {B : Nat} {w w' : World} {g : Nat} {ad : Option Addr} {n cap : Nat} (h : Drw B w g ad n cap) (hb : Below B w w') : Drw B w' g ad n cap := by
  obtain ⟨⟨i, k, hi, hc⟩, hl, hn, hcode⟩ := h
  refine ⟨⟨i, k, hi, by rw [hb.block g hl]; exact hc⟩, hl, hn, fun h0 => ?_⟩
  obtain ⟨b, off, e, h1, h2, h3⟩ := hcode h0
  refine ⟨b, off, e, h1, h2, fun j hj => ?_⟩
  obtain ⟨z, hz, hc⟩ := h3 j hj
  exact ⟨z, hz, by rw [hb.cell (by exact h2)]; exact hc⟩
theorem grown_trans {w w1 w2 : World} {r : Option Nat} (h1 : w.grownBy w1 r) (h2 : w1.grownBy w2 r) : w.grownBy w2 r :=
  ⟨h2.os.trans h1.os, h2.tape.trans h1.tape, h2.output.trans h1.output, Nat.le_trans h1.size h2.size, fun k hk hne => (h2.block k (Nat.lt_of_lt_of_le hk h1.size) hne).trans (h1.block k hk hne)⟩
theorem grown_refl (w : World) (r : Option Nat) : w.grownBy w r := ⟨rfl, rfl, rfl, Nat.le_refl _, fun _ _ _ => rfl⟩
theorem grown_draw {w w1 : World} {r : Option Nat} (h : w.grownBy w1 r) (n : Nat) : w.grownBy (w1.drewN n) r := grown_trans h ⟨rfl, rfl, rfl, Nat.le_refl _, fun _ _ _ => rfl⟩
theorem grown_set {w w1 : World} {g : Nat} (h : w.grownBy w1 (some g)) (o : Nat) (u : Value) : w.grownBy (w1.setCell ⟨g, o, none⟩ u) (some g) :=
  grown_trans h ⟨rfl, rfl, rfl, by simp [World.setCell], fun k _ hne => Below.heap_setCell _ _ _ _ (by intro e; apply hne; rw [e])⟩

theorem cells3 {w : World} {g : Nat} {a b c : Value} {t : TypeId} (h : w.heap[g]? = some (.cells #[a, b, c] t (0, 0))) :
    w.cell? ⟨g, 0, none⟩ = some a ∧ w.cell? ⟨g, 1, none⟩ = some b ∧ w.cell? ⟨g, 2, none⟩ = some c ∧ w.frozen? ⟨g, 0, none⟩ = false ∧ w.frozen? ⟨g, 1, none⟩ = false ∧ w.frozen? ⟨g, 2, none⟩ = false := by
  refine ⟨?_, ?_, ?_, ?_, ?_, ?_⟩ <;> simp [World.cell?, World.frozen?, h]

theorem set2 {w : World} {g : Nat} {a b c : Value} {t : TypeId} (h : w.heap[g]? = some (.cells #[a, b, c] t (0, 0))) (u : Value) : (w.setCell ⟨g, 2, none⟩ u).heap[g]? = some (.cells #[a, b, u] t (0, 0)) := by
  simp [World.setCell, Array.getElem?_modify, h]
theorem set1 {w : World} {g : Nat} {a b c : Value} {t : TypeId} (h : w.heap[g]? = some (.cells #[a, b, c] t (0, 0))) (u : Value) : (w.setCell ⟨g, 1, none⟩ u).heap[g]? = some (.cells #[a, u, c] t (0, 0)) := by
  simp [World.setCell, Array.getElem?_modify, h]

theorem Drw.after {B : Nat} {w W : World} {g : Nat} {ad : Option Addr} {n cap : Nat} (hl : g < B) (hn : n ≤ 1048576)
    (hcode : 0 < n → ∃ b off, ad = some ⟨b, off, none⟩ ∧ b ≠ g ∧ b < B ∧ ∀ j, j < n → ∃ z : Nat, z < 256 ∧ w.cell? ⟨b, off + j, none⟩ = some (.int .u8 (z : Int)))
    (hg : w.grownBy W (some g)) (i : Nat) (h : Int) (hi : i ≤ n) (hc : W.heap[g]? = some (.cells #[.slice ad n cap, .int .i64 (i : Int), .int .i64 h] 78 (0, 0))) : Drw B W g ad n cap := by
  refine ⟨⟨i, h, hi, hc⟩, hl, hn, fun h0 => ?_⟩
  obtain ⟨b, off, e, h1, h2, h3⟩ := hcode h0
  refine ⟨b, off, e, h1, h2, fun j hj => ?_⟩
  obtain ⟨z, hz, hc⟩ := h3 j hj
  exact ⟨z, hz, hg.cell hc (by intro e; apply h1; simpa using e)⟩

set_option maxHeartbeats 1000000 in
set_option maxRecDepth 100000 in
theorem byte_any (B g n cap : Nat) (ad : Option Addr) (w : World) (hd : Drw B w g ad n cap) :
    Calls Try.prog 33 #[.pointer (some ⟨g, 0, none⟩)] w fun e w' => ∃ x : Nat, x < 256 ∧ e = .returned (.int .i64 (x : Int)) ∧ Drw B w' g ad n cap ∧ w.grownBy w' (some g) := by
  obtain ⟨⟨i, h, hi, hc⟩, hl, hn, hcode⟩ := hd
  obtain ⟨c0, c1, c2, f0, f1, f2⟩ := cells3 hc
  go_enter Try.func33, Try.ntmps33
  go_wp2
  obtain ⟨h2, hh2⟩ : ∃ h2, h2 = wrap64 (wrap64 (h * 6364136223846793005) + 1442695040888963407) := ⟨_, rfl⟩
  rw [← hh2]
  have hc2 := set2 hc (.int .i64 h2)
  have hg2 : w.grownBy (w.setCell ⟨g, 2, none⟩ (.int .i64 h2)) (some g) := grown_set (grown_refl _ _) 2 _
  obtain ⟨w2, hw2⟩ : ∃ w2, w2 = w.setCell ⟨g, 2, none⟩ (.int .i64 h2) := ⟨_, rfl⟩
  rw [← hw2] at hc2 hg2 ⊢
  clear hh2 hw2 c0 c1 c2 f0 f1 f2 hc
  obtain ⟨c0, c1, c2, f0, f1, f2⟩ := cells3 hc2
  have HG : Hid (w.grownBy w2 (some g)) := hg2
  clear hg2
  go_quiet (fail)
  go_wp2
  have hx := and_255 (bits .xor .i64 (h2 / 8589934592) (h2 / 35184372088832))
  generalize bits .and .i64 (bits .xor .i64 (h2 / 8589934592) (h2 / 35184372088832)) 255 = x at hx ⊢
  obtain ⟨x, rfl⟩ := Int.eq_ofNat_of_zero_le hx.1
  have hx2 : x ≤ 255 := by omega
  clear hx
  have HCO : Hid _ := hcode
  have hkeep : ∀ q, q < n → ∀ b off, ad = some ⟨b, off, none⟩ → b ≠ g → ∀ z : Value, w.cell? ⟨b, off + q, none⟩ = some z → w2.cell? ⟨b, off + q, none⟩ = some z := by
    intro q _ b off _ hbg z hz
    exact HG.out.cell hz (by intro e; apply hbg; simpa using e)
  by_cases hlt : i < n
  · obtain ⟨b, off, rfl, hbg, hbB, hz⟩ := hcode (by omega)
    obtain ⟨z, hz256, hzc⟩ := hz i hlt
    have hzc2 := hkeep i hlt b off rfl hbg _ hzc
    have hlt2 : (i : Int) < (n : Int) := by omega
    have HZ : Hid (∀ j, j < n → ∃ z : Nat, z < 256 ∧ w.cell? ⟨b, off + j, none⟩ = some (.int .u8 (z : Int))) := hz
    have HK : Hid _ := hkeep
    clear hcode hkeep hz hzc
    go_quiet (fail)
    go_wp2
    go_quiet (fail)
    go_wp2
    go_ret
    have hy := and_255 ((x : Int) + (z : Int))
    generalize bits .and .i64 ((x : Int) + (z : Int)) 255 = y at hy ⊢
    obtain ⟨y, rfl⟩ := Int.eq_ofNat_of_zero_le hy.1
    have hs := set1 hc2 (.int .i64 ((i : Int) + 1))
    exact ⟨y, by omega, rfl, Drw.after hl hn HCO.out (grown_set (grown_draw HG.out _) 1 _) (i + 1) h2 (by omega) hs, grown_set (grown_draw HG.out _) 1 _⟩
  · have hq : decide ((i : Int) < (n : Int)) = false := by simp; omega
    have HK : Hid _ := hkeep
    clear hcode hkeep
    go_quiet (fail)
    go_wp2
    go_ret
    exact ⟨x, by omega, rfl, Drw.after hl hn HCO.out (grown_draw (grown_draw HG.out _) _) i h2 hi hc2, grown_draw (grown_draw HG.out _) _⟩

set_option maxHeartbeats 1000000 in
set_option maxRecDepth 100000 in
/-- A number below m (m from 1 on). -/
theorem below_any (B g n cap : Nat) (ad : Option Addr) (m : Nat) (w : World) (hd : Drw B w g ad n cap) (hm : 0 < m) (hm2 : m ≤ 4294967296) :
    Calls Try.prog 34 #[.pointer (some ⟨g, 0, none⟩), .int .i64 (m : Int)] w fun e w' => ∃ x : Nat, x < m ∧ e = .returned (.int .i64 (x : Int)) ∧ Drw B w' g ad n cap ∧ w.grownBy w' (some g) := by
  have HD : Hid (Drw B w g ad n cap) := hd
  clear hd
  by_cases h256 : m ≤ 256
  · go_enter Try.func34, Try.ntmps34
    go_wp2_with fail
    refine (byte_any B g n cap ad w HD.out).mono ?_
    rintro e w1 ⟨x, hx, rfl, d1, g1⟩
    have D1 : Hid (Drw B w1 g ad n cap) := d1
    have G1 : Hid (w.grownBy w1 (some g)) := g1
    clear d1 g1
    have hmod : (x : Int) % (m : Int) = ((x % m : Nat) : Int) := by rw [Int.natCast_emod]
    have hlt := Nat.mod_lt x hm
    have HM : Hid ((x : Int) % (m : Int) = ((x % m : Nat) : Int)) := hmod
    clear hmod
    go_wp2
    go_ret
    exact ⟨x % m, hlt, (by show Ending.returned (.int .i64 ((x : Int) % (m : Int))) = _; rw [HM.out]), D1.out, G1.out⟩
  · go_enter Try.func34, Try.ntmps34
    go_wp2_with fail
    refine (byte_any B g n cap ad w HD.out).mono ?_
    rintro e w1 ⟨x1, hx1, rfl, d1, g1⟩
    have D1 : Hid (Drw B w1 g ad n cap) := d1
    have G1 : Hid (w.grownBy w1 (some g)) := g1
    clear d1 g1
    go_wp2_with fail
    refine (byte_any B g n cap ad w1 D1.out).mono ?_
    rintro e w2 ⟨x2, hx2, rfl, d2, g2⟩
    have D2 : Hid (Drw B w2 g ad n cap) := d2
    have G2 : Hid (w.grownBy w2 (some g)) := grown_trans G1.out g2
    clear d2 g2
    go_wp2_with fail
    refine (byte_any B g n cap ad w2 D2.out).mono ?_
    rintro e w3 ⟨x3, hx3, rfl, d3, g3⟩
    have D3 : Hid (Drw B w3 g ad n cap) := d3
    have G3 : Hid (w.grownBy w3 (some g)) := grown_trans G2.out g3
    clear d3 g3
    go_wp2_with fail
    refine (byte_any B g n cap ad w3 D3.out).mono ?_
    rintro e w4 ⟨x4, hx4, rfl, d4, g4⟩
    have D4 : Hid (Drw B w4 g ad n cap) := d4
    have G4 : Hid (w.grownBy w4 (some g)) := grown_trans G3.out g4
    clear d4 g4
    have HM : Hid (((x1 : Int) * 16777216 + (x2 : Int) * 65536 + (x3 : Int) * 256 + (x4 : Int)) % (m : Int) = (((x1 * 16777216 + x2 * 65536 + x3 * 256 + x4) % m : Nat) : Int)) := by
      show _ = _
      rw [Int.natCast_emod]
      congr 1
    have hlt := Nat.mod_lt (x1 * 16777216 + x2 * 65536 + x3 * 256 + x4) hm
    have HL : Hid _ := hlt
    clear hlt
    go_wp2
    go_ret
    exact ⟨(x1 * 16777216 + x2 * 65536 + x3 * 256 + x4) % m, HL.out, (by show Ending.returned (.int .i64 (((x1 : Int) * 16777216 + (x2 : Int) * 65536 + (x3 : Int) * 256 + (x4 : Int)) % (m : Int))) = _; rw [HM.out]), D4.out, G4.out⟩
end PartDA
section PartDB
open Go.RowKit

/-- The bytes of a draw, in a slice that came in. -/
def Code (w : World) (ad : Option Addr) (n : Nat) : Prop :=
  0 < n → ∃ b off, ad = some ⟨b, off, none⟩ ∧ b < w.heap.size ∧ ∀ j, j < n → ∃ z : Nat, z < 256 ∧ w.cell? ⟨b, off + j, none⟩ = some (.int .u8 (z : Int))
theorem Code.keep {w w' : World} {ad : Option Addr} {n : Nat} (h : Code w ad n) (hb : Below w.heap.size w w') : Code w' ad n := by
  intro h0
  obtain ⟨b, off, e, h1, h2⟩ := h h0
  refine ⟨b, off, e, Nat.lt_of_lt_of_le h1 hb.size, fun j hj => ?_⟩
  obtain ⟨z, hz, hc⟩ := h2 j hj
  exact ⟨z, hz, by rw [hb.cell (by exact h1)]; exact hc⟩
theorem below_of_grown {B : Nat} {w w' : World} {g : Nat} (h : w.grownBy w' (some g)) (hB : B ≤ g) (hg : g < w.heap.size) : Below B w w' :=
  (Below.refl B w).grown h (by omega) (fun k hk => by cases hk; exact hB)
theorem Drw.lt {B : Nat} {w : World} {g : Nat} {ad : Option Addr} {n cap : Nat} (h : Drw B w g ad n cap) : g < w.heap.size := by
  obtain ⟨i, k, _, hc⟩ := h.cur
  exact (Array.getElem?_eq_some_iff.1 hc).1

theorem Drw.made (w : World) (ad : Option Addr) (n cap : Nat) (x : Int) (hn : n ≤ 1048576) (hc : Code w ad n) :
    Drw (w.heap.size + 1) (w.alloc (.cells #[.slice ad n cap, .int .i64 0, .int .i64 x] 78)) w.heap.size ad n cap := by
  refine ⟨⟨0, x, by omega, heap_alloc_new w _⟩, by omega, hn, fun h0 => ?_⟩
  obtain ⟨b, off, e, h1, h2⟩ := hc h0
  refine ⟨b, off, e, by omega, by omega, fun j hj => ?_⟩
  obtain ⟨z, hz, hc⟩ := h2 j hj
  exact ⟨z, hz, by rw [((Below.refl w.heap.size w).alloc (Nat.le_refl _) _).cell (by exact h1)]; exact hc⟩

set_option maxHeartbeats 1000000 in
set_option maxRecDepth 100000 in
theorem new_any (ad : Option Addr) (n cap : Nat) (w : World) (hn : n ≤ 1048576) (hc : Code w ad n) :
    Calls Try.prog 32 #[.slice ad n cap] w fun e w' => e = .returned (.pointer (some ⟨w.heap.size, 0, none⟩)) ∧ Drw (w.heap.size + 1) w' w.heap.size ad n cap ∧ w'.heap.size = w.heap.size + 1 ∧ Below w.heap.size w w' := by
  have HC : Hid (Code w ad n) := hc
  clear hc
  go_enter Try.func32, Try.ntmps32
  go_wp2
  go_loop [3, 4] (fun h i => ∃ (k : Nat) (x : Int), i = .int .i64 (k : Int) ∧ h = .int .i64 x ∧ k ≤ n ∧ 0 ≤ x ∧ x ≤ 1073741823) (fun _ i => n - (intOf i).toNat)
  case atStart => exact ⟨0, _, rfl, rfl, by omega, by omega, by omega⟩
  case round =>
    obtain ⟨k, x, rfl, rfl, hk, hx0, hx1⟩ := hrel
    by_cases hlt : k < n
    · by_cases h4 : k < 4000
      · have d4 : decide ((k : Int) < 4000) = true := by simp; omega
        obtain ⟨b, off, hadr, _, hz⟩ := HC.out (by omega)
        obtain ⟨z, hz256, hzc⟩ := hz k hlt
        have HZ : Hid _ := hz
        clear hz
        have hlt2 : (k : Int) < (n : Int) := by omega
        have hy := and_le (x * 131 + (z : Int) + 7) 1073741823 (by decide)
        have HY : Hid (0 ≤ bits .and .i64 (x * 131 + (z : Int) + 7) 1073741823 ∧ bits .and .i64 (x * 131 + (z : Int) + 7) 1073741823 ≤ 1073741823) := hy
        clear hy
        subst hadr
        go_wp2
        go_round
        case rel => exact ⟨k + 1, _, by go_num, rfl, by omega, HY.out.1, HY.out.2⟩
        case measure => simp [intOf]; omega
      · have d4 : decide ((k : Int) < 4000) = false := by simp; omega
        go_wp2
        go_ret
        exact ⟨rfl, Drw.made w ad n cap x hn HC.out, by simp, (Below.refl _ _).alloc (Nat.le_refl _) _⟩
    · go_wp2
      go_ret
      exact ⟨rfl, Drw.made w ad n cap x hn HC.out, by simp, (Below.refl _ _).alloc (Nat.le_refl _) _⟩
end PartDB
end Go.Proofs.Ytjohhledpjmffaa
