/- The cursor of a draw: what its byte answers, whatever the bytes of the draw are, and that nothing but the cursor is written. A new cursor over the bytes of a draw; numbers and texts that are drawn: each is some number or text within its bounds, and nothing that was there is written. Drawn places: twelve numbers, each of 0 .. 9999, in memory of their own. The law's own test of a draw's length, and texts put together. A program that is nested deeper than may be is refused, one less deep is not: the law. -/
import Derived.Test.YtoaipdckpecpoaaGreatDoorZac
import Derived.BigQuiet
import Derived.Deep.QuietTactic
import Derived.Test.YtoaipdckpecpoaaGreatDoorDeP
namespace Go.Proofs.YtoaipdckpecpoaaGreatDoor
section PartDA
open Go.RowKit

theorem and_le (x : Int) (m : Nat) (hm : m < 2147483648) : 0 ≤ bits .and .i64 x (m : Int) ∧ bits .and .i64 x (m : Int) ≤ (m : Int) := by
  have e : bits .and .i64 x (m : Int) = IntKind.i64.wrap (((BitVec.ofInt 64 x &&& BitVec.ofInt 64 (m : Int)).toNat : Nat) : Int) := rfl
  have h1 : (BitVec.ofInt 64 x &&& BitVec.ofInt 64 (m : Int)).toNat ≤ m := by
    rw [BitVec.toNat_and]
    refine Nat.le_trans Nat.and_le_right ?_
    rw [BitVec.toNat_ofInt]
    omega
  rw [e, IntKind.wrap_i64]
  omega
theorem and_255 (x : Int) : 0 ≤ bits .and .i64 x 255 ∧ bits .and .i64 x 255 ≤ 255 := and_le x 255 (by decide)

/-- The cursor lies in block g, the bytes that it goes over in another; both below B. -/
structure Drw (B : Nat) (w : World) (g : Nat) (ad : Option Addr) (n cap : Nat) : Prop where
  cur : ∃ i : Nat, ∃ h : Int, i ≤ n ∧ w.heap[g]? = some (.cells #[.slice ad n cap, .int .i64 (i : Int), .int .i64 h] 87 (0, 0))
  low : g < B
  len : n ≤ 1048576
  code : 0 < n → ∃ b off, ad = some ⟨b, off, none⟩ ∧ b ≠ g ∧ b < B ∧ ∀ j, j < n → ∃ z : Nat, z < 256 ∧ w.cell? ⟨b, off + j, none⟩ = some (.int .u8 (z : Int))

theorem Drw.keep {B : Nat} {w w' : World} {g : Nat} {ad : Option Addr} {n cap : Nat} (h : Drw B w g ad n cap) (hb : Below B w w') : Drw B w' g ad n cap := by
  obtain ⟨⟨i, k, hi, hc⟩, hl, hn, hcode⟩ := h
  refine ⟨⟨i, k, hi, by rw [hb.block g hl]; exact hc⟩, hl, hn, fun h0 => ?_⟩
  obtain ⟨b, off, e, h1, h2, h3⟩ := hcode h0
  refine ⟨b, off, e, h1, h2, fun j hj => ?_⟩
  obtain ⟨z, hz, hc⟩ := h3 j hj
  exact ⟨z, hz, by rw [hb.cell (by exact h2)]; exact hc⟩
theorem grown_trans {w w1 w2 : World} {r : Option Nat} (h1 : w.grownBy w1 r) (h2 : w1.grownBy w2 r) : w.grownBy w2 r :=
  ⟨h2.os.trans h1.os, h2.tape.trans h1.tape, h2.output.trans h1.output, Nat.le_trans h1.size h2.size, fun k hk hne => (h2.block k (Nat.lt_of_lt_of_le hk h1.size) hne).trans (h1.block k hk hne)⟩
theorem grown_refl (w : World) (r : Option Nat) : w.grownBy w r := ⟨rfl, rfl, rfl, Nat.le_refl _, fun _ _ _ => rfl⟩
theorem grown_draw {w w1 : World} {r : Option Nat} (h : w.grownBy w1 r) (n : Nat) : w.grownBy (w1.drewN n) r := grown_trans h ⟨rfl, rfl, rfl, Nat.le_refl _, fun _ _ _ => rfl⟩
theorem grown_set {w w1 : World} {g : Nat} (h : w.grownBy w1 (some g)) (o : Nat) (u : Value) : w.grownBy (w1.setCell ⟨g, o, none⟩ u) (some g) :=
  grown_trans h ⟨rfl, rfl, rfl, by simp [World.setCell], fun k _ hne => Below.heap_setCell _ _ _ _ (by intro e; apply hne; rw [e])⟩

theorem dcells3 {w : World} {g : Nat} {a b c : Value} {t : TypeId} (h : w.heap[g]? = some (.cells #[a, b, c] t (0, 0))) :
    w.cell? ⟨g, 0, none⟩ = some a ∧ w.cell? ⟨g, 1, none⟩ = some b ∧ w.cell? ⟨g, 2, none⟩ = some c ∧ w.frozen? ⟨g, 0, none⟩ = false ∧ w.frozen? ⟨g, 1, none⟩ = false ∧ w.frozen? ⟨g, 2, none⟩ = false := by
  refine ⟨?_, ?_, ?_, ?_, ?_, ?_⟩ <;> simp [World.cell?, World.frozen?, h]

theorem set2 {w : World} {g : Nat} {a b c : Value} {t : TypeId} (h : w.heap[g]? = some (.cells #[a, b, c] t (0, 0))) (u : Value) : (w.setCell ⟨g, 2, none⟩ u).heap[g]? = some (.cells #[a, b, u] t (0, 0)) := by
  simp [World.setCell, Array.getElem?_modify, h]
theorem set1 {w : World} {g : Nat} {a b c : Value} {t : TypeId} (h : w.heap[g]? = some (.cells #[a, b, c] t (0, 0))) (u : Value) : (w.setCell ⟨g, 1, none⟩ u).heap[g]? = some (.cells #[a, u, c] t (0, 0)) := by
  simp [World.setCell, Array.getElem?_modify, h]

theorem Drw.after {B : Nat} {w W : World} {g : Nat} {ad : Option Addr} {n cap : Nat} (hl : g < B) (hn : n ≤ 1048576)
    (hcode : 0 < n → ∃ b off, ad = some ⟨b, off, none⟩ ∧ b ≠ g ∧ b < B ∧ ∀ j, j < n → ∃ z : Nat, z < 256 ∧ w.cell? ⟨b, off + j, none⟩ = some (.int .u8 (z : Int)))
    (hg : w.grownBy W (some g)) (i : Nat) (h : Int) (hi : i ≤ n) (hc : W.heap[g]? = some (.cells #[.slice ad n cap, .int .i64 (i : Int), .int .i64 h] 87 (0, 0))) : Drw B W g ad n cap := by
  refine ⟨⟨i, h, hi, hc⟩, hl, hn, fun h0 => ?_⟩
  obtain ⟨b, off, e, h1, h2, h3⟩ := hcode h0
  refine ⟨b, off, e, h1, h2, fun j hj => ?_⟩
  obtain ⟨z, hz, hc⟩ := h3 j hj
  exact ⟨z, hz, hg.cell hc (by intro e; apply h1; simpa using e)⟩

set_option maxHeartbeats 1000000 in
set_option maxRecDepth 100000 in
theorem byte_any (B g n cap : Nat) (ad : Option Addr) (w : World) (hd : Drw B w g ad n cap) :
    Calls Tryz.prog 18 #[.pointer (some ⟨g, 0, none⟩)] w fun e w' => ∃ x : Nat, x < 256 ∧ e = .returned (.int .i64 (x : Int)) ∧ Drw B w' g ad n cap ∧ w.grownBy w' (some g) := by
  obtain ⟨⟨i, h, hi, hc⟩, hl, hn, hcode⟩ := hd
  obtain ⟨c0, c1, c2, f0, f1, f2⟩ := dcells3 hc
  go_enter Tryz.func18, Tryz.ntmps18
  go_wp2
  obtain ⟨h2, hh2⟩ : ∃ h2, h2 = wrap64 (wrap64 (h * 6364136223846793005) + 1442695040888963407) := ⟨_, rfl⟩
  rw [← hh2]
  have hc2 := set2 hc (.int .i64 h2)
  have hg2 : w.grownBy (w.setCell ⟨g, 2, none⟩ (.int .i64 h2)) (some g) := grown_set (grown_refl _ _) 2 _
  obtain ⟨w2, hw2⟩ : ∃ w2, w2 = w.setCell ⟨g, 2, none⟩ (.int .i64 h2) := ⟨_, rfl⟩
  rw [← hw2] at hc2 hg2 ⊢
  clear hh2 hw2 c0 c1 c2 f0 f1 f2 hc
  obtain ⟨c0, c1, c2, f0, f1, f2⟩ := dcells3 hc2
  have HG : Hid (w.grownBy w2 (some g)) := hg2
  clear hg2
  go_quiet (fail)
  go_wp2
  have hx := and_255 (bits .xor .i64 (h2 / 8589934592) (h2 / 35184372088832))
  generalize bits .and .i64 (bits .xor .i64 (h2 / 8589934592) (h2 / 35184372088832)) 255 = x at hx ⊢
  obtain ⟨x, rfl⟩ := Int.eq_ofNat_of_zero_le hx.1
  have hx2 : x ≤ 255 := by omega
  clear hx
  have HCO : Hid _ := hcode
  have hkeep : ∀ q, q < n → ∀ b off, ad = some ⟨b, off, none⟩ → b ≠ g → ∀ z : Value, w.cell? ⟨b, off + q, none⟩ = some z → w2.cell? ⟨b, off + q, none⟩ = some z := by
    intro q _ b off _ hbg z hz
    exact HG.out.cell hz (by intro e; apply hbg; simpa using e)
  by_cases hlt : i < n
  · obtain ⟨b, off, rfl, hbg, hbB, hz⟩ := hcode (by omega)
    obtain ⟨z, hz256, hzc⟩ := hz i hlt
    have hzc2 := hkeep i hlt b off rfl hbg _ hzc
    have hlt2 : (i : Int) < (n : Int) := by omega
    have HZ : Hid (∀ j, j < n → ∃ z : Nat, z < 256 ∧ w.cell? ⟨b, off + j, none⟩ = some (.int .u8 (z : Int))) := hz
    have HK : Hid _ := hkeep
    clear hcode hkeep hz hzc
    go_quiet (fail)
    go_wp2
    go_quiet (fail)
    go_wp2
    go_ret
    have hy := and_255 ((x : Int) + (z : Int))
    generalize bits .and .i64 ((x : Int) + (z : Int)) 255 = y at hy ⊢
    obtain ⟨y, rfl⟩ := Int.eq_ofNat_of_zero_le hy.1
    have hs := set1 hc2 (.int .i64 ((i : Int) + 1))
    exact ⟨y, by omega, rfl, Drw.after hl hn HCO.out (grown_set (grown_draw HG.out _) 1 _) (i + 1) h2 (by omega) hs, grown_set (grown_draw HG.out _) 1 _⟩
  · have hq : decide ((i : Int) < (n : Int)) = false := by simp; omega
    have HK : Hid _ := hkeep
    clear hcode hkeep
    go_quiet (fail)
    go_wp2
    go_ret
    exact ⟨x, by omega, rfl, Drw.after hl hn HCO.out (grown_draw (grown_draw HG.out _) _) i h2 hi hc2, grown_draw (grown_draw HG.out _) _⟩

set_option maxHeartbeats 1000000 in
set_option maxRecDepth 100000 in
/-- A number below m (m from 1 on). -/
theorem below_any (B g n cap : Nat) (ad : Option Addr) (m : Nat) (w : World) (hd : Drw B w g ad n cap) (hm : 0 < m) (hm2 : m ≤ 4294967296) :
    Calls Tryz.prog 19 #[.pointer (some ⟨g, 0, none⟩), .int .i64 (m : Int)] w fun e w' => ∃ x : Nat, x < m ∧ e = .returned (.int .i64 (x : Int)) ∧ Drw B w' g ad n cap ∧ w.grownBy w' (some g) := by
  have HD : Hid (Drw B w g ad n cap) := hd
  clear hd
  by_cases h256 : m ≤ 256
  · go_enter Tryz.func19, Tryz.ntmps19
    go_wp2_with fail
    refine (byte_any B g n cap ad w HD.out).mono ?_
    rintro e w1 ⟨x, hx, rfl, d1, g1⟩
    have D1 : Hid (Drw B w1 g ad n cap) := d1
    have G1 : Hid (w.grownBy w1 (some g)) := g1
    clear d1 g1
    have hmod : (x : Int) % (m : Int) = ((x % m : Nat) : Int) := by rw [Int.natCast_emod]
    have hlt := Nat.mod_lt x hm
    have HM : Hid ((x : Int) % (m : Int) = ((x % m : Nat) : Int)) := hmod
    clear hmod
    go_wp2
    go_ret
    exact ⟨x % m, hlt, (by show Ending.returned (.int .i64 ((x : Int) % (m : Int))) = _; rw [HM.out]), D1.out, G1.out⟩
  · go_enter Tryz.func19, Tryz.ntmps19
    go_wp2_with fail
    refine (byte_any B g n cap ad w HD.out).mono ?_
    rintro e w1 ⟨x1, hx1, rfl, d1, g1⟩
    have D1 : Hid (Drw B w1 g ad n cap) := d1
    have G1 : Hid (w.grownBy w1 (some g)) := g1
    clear d1 g1
    go_wp2_with fail
    refine (byte_any B g n cap ad w1 D1.out).mono ?_
    rintro e w2 ⟨x2, hx2, rfl, d2, g2⟩
    have D2 : Hid (Drw B w2 g ad n cap) := d2
    have G2 : Hid (w.grownBy w2 (some g)) := grown_trans G1.out g2
    clear d2 g2
    go_wp2_with fail
    refine (byte_any B g n cap ad w2 D2.out).mono ?_
    rintro e w3 ⟨x3, hx3, rfl, d3, g3⟩
    have D3 : Hid (Drw B w3 g ad n cap) := d3
    have G3 : Hid (w.grownBy w3 (some g)) := grown_trans G2.out g3
    clear d3 g3
    go_wp2_with fail
    refine (byte_any B g n cap ad w3 D3.out).mono ?_
    rintro e w4 ⟨x4, hx4, rfl, d4, g4⟩
    have D4 : Hid (Drw B w4 g ad n cap) := d4
    have G4 : Hid (w.grownBy w4 (some g)) := grown_trans G3.out g4
    clear d4 g4
    have HM : Hid (((x1 : Int) * 16777216 + (x2 : Int) * 65536 + (x3 : Int) * 256 + (x4 : Int)) % (m : Int) = (((x1 * 16777216 + x2 * 65536 + x3 * 256 + x4) % m : Nat) : Int)) := by
      show _ = _
      rw [Int.natCast_emod]
      congr 1
    have hlt := Nat.mod_lt (x1 * 16777216 + x2 * 65536 + x3 * 256 + x4) hm
    have HL : Hid _ := hlt
    clear hlt
    go_wp2
    go_ret
    exact ⟨(x1 * 16777216 + x2 * 65536 + x3 * 256 + x4) % m, HL.out, (by show Ending.returned (.int .i64 (((x1 : Int) * 16777216 + (x2 : Int) * 65536 + (x3 : Int) * 256 + (x4 : Int)) % (m : Int))) = _; rw [HM.out]), D4.out, G4.out⟩
end PartDA
section PartDB
open Go.RowKit

/-- The bytes of a draw, in a slice that came in. -/
def Code (w : World) (ad : Option Addr) (n : Nat) : Prop :=
  0 < n → ∃ b off, ad = some ⟨b, off, none⟩ ∧ b < w.heap.size ∧ ∀ j, j < n → ∃ z : Nat, z < 256 ∧ w.cell? ⟨b, off + j, none⟩ = some (.int .u8 (z : Int))
theorem Code.keep {w w' : World} {ad : Option Addr} {n : Nat} (h : Code w ad n) (hb : Below w.heap.size w w') : Code w' ad n := by
  intro h0
  obtain ⟨b, off, e, h1, h2⟩ := h h0
  refine ⟨b, off, e, Nat.lt_of_lt_of_le h1 hb.size, fun j hj => ?_⟩
  obtain ⟨z, hz, hc⟩ := h2 j hj
  exact ⟨z, hz, by rw [hb.cell (by exact h1)]; exact hc⟩
theorem below_of_grown {B : Nat} {w w' : World} {g : Nat} (h : w.grownBy w' (some g)) (hB : B ≤ g) (hg : g < w.heap.size) : Below B w w' :=
  (Below.refl B w).grown h (by omega) (fun k hk => by cases hk; exact hB)
theorem Drw.lt {B : Nat} {w : World} {g : Nat} {ad : Option Addr} {n cap : Nat} (h : Drw B w g ad n cap) : g < w.heap.size := by
  obtain ⟨i, k, _, hc⟩ := h.cur
  exact (Array.getElem?_eq_some_iff.1 hc).1

theorem Drw.made (w : World) (ad : Option Addr) (n cap : Nat) (x : Int) (hn : n ≤ 1048576) (hc : Code w ad n) :
    Drw (w.heap.size + 1) (w.alloc (.cells #[.slice ad n cap, .int .i64 0, .int .i64 x] 87)) w.heap.size ad n cap := by
  refine ⟨⟨0, x, by omega, heap_alloc_new w _⟩, by omega, hn, fun h0 => ?_⟩
  obtain ⟨b, off, e, h1, h2⟩ := hc h0
  refine ⟨b, off, e, by omega, by omega, fun j hj => ?_⟩
  obtain ⟨z, hz, hc⟩ := h2 j hj
  exact ⟨z, hz, by rw [((Below.refl w.heap.size w).alloc (Nat.le_refl _) _).cell (by exact h1)]; exact hc⟩

set_option maxHeartbeats 1000000 in
set_option maxRecDepth 100000 in
theorem new_any (ad : Option Addr) (n cap : Nat) (w : World) (hn : n ≤ 1048576) (hc : Code w ad n) :
    Calls Tryz.prog 17 #[.slice ad n cap] w fun e w' => e = .returned (.pointer (some ⟨w.heap.size, 0, none⟩)) ∧ Drw (w.heap.size + 1) w' w.heap.size ad n cap ∧ w'.heap.size = w.heap.size + 1 ∧ Below w.heap.size w w' := by
  have HC : Hid (Code w ad n) := hc
  clear hc
  go_enter Tryz.func17, Tryz.ntmps17
  go_wp2
  go_loop [3, 4] (fun h i => ∃ (k : Nat) (x : Int), i = .int .i64 (k : Int) ∧ h = .int .i64 x ∧ k ≤ n ∧ 0 ≤ x ∧ x ≤ 1073741823) (fun _ i => n - (intOf i).toNat)
  case atStart => exact ⟨0, _, rfl, rfl, by omega, by omega, by omega⟩
  case round =>
    obtain ⟨k, x, rfl, rfl, hk, hx0, hx1⟩ := hrel
    by_cases hlt : k < n
    · by_cases h4 : k < 4000
      · have d4 : decide ((k : Int) < 4000) = true := by simp; omega
        obtain ⟨b, off, hadr, _, hz⟩ := HC.out (by omega)
        obtain ⟨z, hz256, hzc⟩ := hz k hlt
        have HZ : Hid _ := hz
        clear hz
        have hlt2 : (k : Int) < (n : Int) := by omega
        have hy := and_le (x * 131 + (z : Int) + 7) 1073741823 (by decide)
        have HY : Hid (0 ≤ bits .and .i64 (x * 131 + (z : Int) + 7) 1073741823 ∧ bits .and .i64 (x * 131 + (z : Int) + 7) 1073741823 ≤ 1073741823) := hy
        clear hy
        subst hadr
        go_wp2
        go_round
        case rel => exact ⟨k + 1, _, by go_num, rfl, by omega, HY.out.1, HY.out.2⟩
        case measure => simp [intOf]; omega
      · have d4 : decide ((k : Int) < 4000) = false := by simp; omega
        go_wp2
        go_ret
        exact ⟨rfl, Drw.made w ad n cap x hn HC.out, by simp, (Below.refl _ _).alloc (Nat.le_refl _) _⟩
    · go_wp2
      go_ret
      exact ⟨rfl, Drw.made w ad n cap x hn HC.out, by simp, (Below.refl _ _).alloc (Nat.le_refl _) _⟩
end PartDB
section PartDPy
open Go.RowKit

def ivp (z : Nat) : Value := .int .i64 (z : Int)
theorem infoJp : (Tryz.prog.info? 3).map (fun i => (i.zero, i.size, i.bytes)) = some (some (.int .i64 0), 1, 8) := by kernel_rfl
/-- The row of the numbers zs, in the call's own memory from block B on. -/
def JRow (B : Nat) (w : World) (v : Value) (zs : List Nat) : Prop := w.ownsRow B 3 1 v zs.length (zs.map ivp)
theorem JRow.made {B : Nat} (w : World) (hb : B ≤ w.heap.size) : JRow B (w.alloc (.cells #[] 3)) (.slice (some ⟨w.heap.size, 0, none⟩) 0 0) [] := World.ownsRow_made w #[] 0 hb (by decide) rfl
theorem JRow.alloc {B : Nat} {w : World} {v : Value} {zs : List Nat} (h : JRow B w v zs) (o : Obj) : JRow B (w.alloc o) v zs := World.ownsRow.alloc h o
theorem JRow.kept {B : Nat} {w w' : World} {v : Value} {zs : List Nat} {g : Nat} (h : JRow B w v zs) (hg : w.grownBy w' (some g)) (hB : g < B) : JRow B w' v zs := by
  refine World.ownsRow.kept h hg (.inr ?_)
  intro e
  have := (World.ownsRow.lt h g e).1
  omega
/-- One number more. -/
theorem JRow.push {ops : Array Oper} {rest : List Oper} {o : Oper} {a : Act} {Q : Exit → Act → World → Prop} {B : Nat} {w : World} {v : Value} {zs : List Nat}
    (hown : JRow B w v zs) (hgd : o.guard = none) (s x : Operand)
    (ho : o.op = .call { callee := .builtin .append, args := #[s, x], argTypes := #[24, 24] })
    (hs : a.eval s = v) (z : Int) (c : Nat) (hz : z = (c : Int)) (hx : a.eval x = .slice (some ⟨w.heap.size, 0, none⟩) 1 1)
    (hlen : zs.length < 1000000) (hB : B ≤ w.heap.size)
    (h : ∀ v' w', JRow B w' v' (zs ++ [c]) → Below B w w' → wpList Tryz.prog ops Q rest (a.put o.dst v') w') :
    wpList Tryz.prog ops Q (o :: rest) a (w.alloc (.cells #[.int .i64 z] 3)) := by
  subst hz
  obtain ⟨i0, hi, hz0, hz1, hz2⟩ := info_parts infoJp
  refine wpList_append_own _ hgd s x 24 ho B 3 i0 (.int .i64 0) 1 8 Tryz.underlying24 hi hz0 hz1 hz2 rfl (by decide) v zs.length (zs.map ivp) hs (hown.alloc _) ⟨w.heap.size, 0, none⟩ 1 1 [ivp c] hx rfl (cell_one_new _ _ _) ?_ ?_ ?_ ?_ ?_
  · intro u hu; simp at hu; subst hu; rfl
  · unfold maxLen; omega
  · omega
  · simp; omega
  · intro v' w' h2 h3 _
    refine h v' w' ?_ ?_
    · unfold JRow; simpa using h2
    · exact ((Below.refl B w).alloc hB _).grown h3 (by simp; omega) (fun k hk => (hown.lt k hk).1)
theorem JRow.form {B : Nat} {w : World} {v : Value} {zs : List Nat} (h : JRow B w v zs) (hne : zs ≠ []) :
    ∃ g cap, v = .slice (some ⟨g, 0, none⟩) zs.length cap ∧ B ≤ g ∧ g < w.heap.size ∧ ∀ j, j < zs.length → w.cell? ⟨g, j, none⟩ = some (.int .i64 ((zs.getD j 0 : Nat) : Int)) := by
  rcases h.2 with ⟨_, hn⟩ | ⟨g, cap, cur, rfl, h1, hg, _⟩
  · exact absurd (by simpa using hn) hne
  · refine ⟨g, cap, rfl, h1, (Array.getElem?_eq_some_iff.1 hg).1, fun j hj => ?_⟩
    rw [World.ownsRow.cellAt h j (by omega)]
    simp [hj, ivp]

set_option maxHeartbeats 1000000 in
set_option maxRecDepth 100000 in
theorem drawPlaces_any (ad : Option Addr) (n cap : Nat) (w : World) (hn : n ≤ 1048576) (hc : Code w ad n) :
    Calls Tryz.prog 7 #[.slice ad n cap] w fun e w' => ∃ (g c : Nat) (zs : List Nat), zs.length = 12 ∧ (∀ j, zs.getD j 0 < 10000) ∧ e = .returned (.slice (some ⟨g, 0, none⟩) 12 c) ∧ w.heap.size ≤ g ∧ g < w'.heap.size ∧
      (∀ j, j < 12 → w'.cell? ⟨g, j, none⟩ = some (.int .i64 ((zs.getD j 0 : Nat) : Int))) ∧ Below w.heap.size w w' := by
  have HC : Hid (Code w ad n) := hc
  clear hc
  go_enter Tryz.func7, Tryz.ntmps7
  go_wp2_with fail
  refine (new_any ad n cap w hn HC.out).mono ?_
  rintro e w1 ⟨rfl, d1, s1, b1⟩
  have D1 : Hid (Drw (w.heap.size + 1) w1 w.heap.size ad n cap) := d1
  clear d1
  go_wp2_with fail
  refine (byte_any _ _ n cap ad w1 D1.out).mono ?_
  rintro e w2 ⟨x, hx, rfl, d2, g2⟩
  have D2 : Hid (Drw (w.heap.size + 1) w2 w.heap.size ad n cap) := d2
  have B2 : Hid (Below w.heap.size w w2) := b1.trans (below_of_grown g2 (Nat.le_refl _) (by omega))
  have s2 := g2.size
  clear d2 g2 b1 hx
  go_wp2
  go_loopw [4, 5] (fun v i wr => ∃ (k : Nat) (zs : List Nat), i = .int .i64 (k : Int) ∧ k ≤ 12 ∧ JRow (w.heap.size + 1) wr v zs ∧ w.heap.size + 1 ≤ wr.heap.size ∧ Hid (zs.length = k) ∧ Hid (∀ j, zs.getD j 0 < 10000) ∧ Hid (Drw (w.heap.size + 1) wr w.heap.size ad n cap) ∧ Hid (Below w.heap.size w wr)) (fun _ i _ => 12 - (intOf i).toNat)
  case atStart => exact ⟨0, [], rfl, by omega, JRow.made w2 (by omega), by simp; omega, rfl, (by show ∀ j, _; simp), D2.out.keep ((Below.refl _ _).alloc (by omega) _), B2.out.alloc B2.out.size _⟩
  case round =>
    obtain ⟨k, zs, rfl, hk, hrow, hsz, HL, HZ, HDR, HB⟩ := hrel
    by_cases hlt : k < 12
    · go_wp2_with fail
      refine (below_any _ _ n cap ad 10000 wr HDR.out (by decide) (by decide)).mono ?_
      rintro e w3 ⟨x, hx, rfl, d3, g3⟩
      have hrow1 := hrow.kept g3 (by omega)
      have D3 : Hid (Drw (w.heap.size + 1) w3 w.heap.size ad n cap) := d3
      have B3 : Hid (Below w.heap.size w w3) := HB.out.trans (below_of_grown g3 (Nat.le_refl _) (by omega))
      have hs1 := g3.size
      have hlen : zs.length < 1000000 := by have := HL.out; omega
      clear d3 g3 hrow
      go_wp2_with (at_builtin; go_must (refine hrow1.push rfl (.tmp 15) (.tmp 18) rfl rfl _ x ?hz rfl ?hl ?hb ?_))
      case hz => omega
      case hl => omega
      case hb => omega
      · intro v' w4 hrow' hbel'
        have B4 : Hid (Below w.heap.size w w4) := B3.out.trans (hbel'.mono (by omega))
        have HZ2 : Hid (∀ j, (zs ++ [x]).getD j 0 < 10000) := by
          show ∀ j, _
          intro j
          have h1 := HZ.out j
          rcases Nat.lt_trichotomy j zs.length with h | h | h
          · rw [List.getD_eq_getElem?_getD, List.getElem?_append_left h, ← List.getD_eq_getElem?_getD]; exact h1
          · subst h; simp; exact hx
          · rw [List.getD_eq_getElem?_getD, List.getElem?_eq_none (by simp; omega)]; decide
        go_wp2
        go_roundw
        case rel => exact ⟨k + 1, _, by go_num, by omega, hrow', by have := hbel'.size; omega, by have := HL.out; show _ = _; simp; omega, HZ2.out, D3.out.keep hbel', B4.out⟩
        case measure => simp [intOf]; omega
    · have hl12 : zs.length = 12 := by have := HL.out; omega
      obtain ⟨g, c, rfl, hg1, hg2, hcell⟩ := hrow.form (by intro e; rw [e] at hl12; cases hl12)
      rw [hl12] at hcell ⊢
      have HCL : Hid _ := hcell
      clear hcell
      go_wp2
      go_ret
      exact ⟨g, c, zs, hl12, HZ.out, rfl, by omega, hg2, HCL.out, HB.out⟩

end PartDPy
section PartBig
open Go.RowKit
set_option maxHeartbeats 400000 in
theorem big_any (ad : Option Addr) (n cap : Nat) (w : World) : Calls Tryz.prog 6 #[.slice ad n cap] w fun e w' => e = .returned (.bool (decide ((1048576 : Int) < (n : Int)))) ∧ w' = w := by
  go_enter Tryz.func6, Tryz.ntmps6
  go_wp2
  go_ret
  exact ⟨rfl, rfl⟩
theorem big_yes (ad : Option Addr) (n cap : Nat) (h : 1048576 < n) : ∀ w, Calls Tryz.prog 6 #[.slice ad n cap] w fun e w' => e = .returned (.bool true) ∧ w' = w := fun w => by
  have := big_any ad n cap w
  rwa [show decide ((1048576 : Int) < (n : Int)) = true by simp; omega] at this
theorem big_no (ad : Option Addr) (n cap : Nat) (h : ¬ 1048576 < n) : ∀ w, Calls Tryz.prog 6 #[.slice ad n cap] w fun e w' => e = .returned (.bool false) ∧ w' = w := fun w => by
  have := big_any ad n cap w
  rwa [show decide ((1048576 : Int) < (n : Int)) = false by simp; omega] at this
/-- What was laid before stays. -/
theorem keep2 {w w' : World} {g : Nat} {a b : Value} (hb : Below w.heap.size w w') (hg : g < w.heap.size) (h : w.cell? ⟨g, 0, none⟩ = some a ∧ w.cell? ⟨g, 1, none⟩ = some b) : w'.cell? ⟨g, 0, none⟩ = some a ∧ w'.cell? ⟨g, 1, none⟩ = some b :=
  ⟨(hb.cell (by exact hg)).trans h.1, (hb.cell (by exact hg)).trans h.2⟩
end PartBig
section PartLwDe
open Go.RowKit

namespace De
theorem chk_at (k : Nat) (h : k < 40) : chk k = true := List.all_eq_true.1 chk_all k (List.mem_range.2 h)
theorem facts (k : Nat) (h : k < 40) : ((Ip.read (whole k)).isSome = decide (k ≤ 13) ∧ (Pr.read (whole k)).isSome = decide (k ≤ 13)) ∧ (Ip.read (half k)).isSome = decide (k = 0) ∧ (k ≤ 13 → len? (Ip.read (whole k)) = 3) := by
  have := chk_at k h
  unfold chk at this
  simp only [Bool.and_eq_true, beq_iff_eq, Bool.or_eq_true, decide_eq_true_eq] at this
  obtain ⟨⟨⟨a, b⟩, c⟩, d⟩ := this
  exact ⟨⟨a, b⟩, c, fun hk => by rcases d with d | d <;> omega⟩
def S (k : Nat) : ByteArray := ⟨(op k).toArray⟩
def T (k : Nat) : ByteArray := ⟨(cl k).toArray⟩
theorem S_succ (k : Nat) : S k ++ ⟨#[40]⟩ = S (k + 1) := by
  apply ByteArray.ext
  apply Array.ext'
  simp [S, op, List.replicate_succ']
theorem T_succ (k : Nat) : T k ++ ⟨#[41]⟩ = T (k + 1) := by
  apply ByteArray.ext
  apply Array.ext'
  simp [T, cl, List.replicate_succ']
theorem S_size (k : Nat) : (S k).size = k := by show (op k).toArray.size = k; simp [op]
theorem T_size (k : Nat) : (T k).size = k := by show (cl k).toArray.size = k; simp [cl]
theorem whole_is (k : Nat) : (⟨#[123, 32, 112, 114, 105, 110, 116, 32]⟩ : ByteArray) ++ S k ++ ⟨#[49]⟩ ++ T k ++ ⟨#[32, 125]⟩ = ⟨(whole k).toArray⟩ := by
  apply ByteArray.ext
  apply Array.ext'
  simp [S, T, whole]
theorem half_is (k : Nat) : (⟨#[123, 32, 112, 114, 105, 110, 116, 32]⟩ : ByteArray) ++ S k ++ ⟨#[49, 32, 125]⟩ = ⟨(half k).toArray⟩ := by
  apply ByteArray.ext
  apply Array.ext'
  simp [S, half]
theorem whole_len (k : Nat) : (whole k).length = 2 * k + 11 := by simp [whole, op, cl]; omega
theorem half_len (k : Nat) : (half k).length = k + 11 := by simp [half, op]
end De
/-- What is read, in short: whether there is one, and how many nodes. -/
theorem ans_short {w' : World} {R : Option (List Pi × List Pg.Rl)} {e : Ending} (h : RdAns w' R e) : ∃ va vc ra rn rc, e = .returned (.tuple #[.agg #[.slice va (De.len? R) vc, .slice ra rn rc], .bool R.isSome]) := by
  cases R with
  | none => exact ⟨none, 0, none, 0, 0, h⟩
  | some q =>
    obtain ⟨ps, rs⟩ := q
    obtain ⟨v, rv, rfl, ⟨va, vc, rfl, -⟩, ⟨ra, rc, rfl, -⟩⟩ := h
    exact ⟨va, vc, ra, _, rc, rfl⟩
set_option maxHeartbeats 4000000 in
set_option maxRecDepth 100000 in
theorem lawDeep (ad : Option Addr) (n cap : Nat) (w : World) (hc : n ≤ 1048576 → Code w ad n) (h2 : TwoS w) (h3 : RowO w) (lo : 0 < w.heap.size ∧ 2 < w.heap.size) :
    Calls Tryz.prog 3 #[.slice ad n cap] w fun e w' => e = .returned (.bool true) ∧ Below w.heap.size w w' := by
  by_cases hbig : 1048576 < n
  · have CB : Hid (∀ w, Calls Tryz.prog 6 #[.slice ad n cap] w fun e w' => e = .returned (.bool true) ∧ w' = w) := big_yes ad n cap hbig
    clear hc h2 h3 lo
    go_enter Tryz.func3, Tryz.ntmps3
    go_wp2_with fail
    refine (CB.out _).mono ?_
    rintro e w' ⟨rfl, rfl⟩
    go_wp2
    go_ret
    exact ⟨rfl, Below.refl _ _⟩
  have CB : Hid (∀ w, Calls Tryz.prog 6 #[.slice ad n cap] w fun e w' => e = .returned (.bool false) ∧ w' = w) := big_no ad n cap hbig
  have HC : Hid (Code w ad n) := hc (by omega)
  have hn : n ≤ 1048576 := by omega
  have CR : Hid (∀ l W, l.length ≤ 1048576 → Below w.heap.size w W → Calls Tryz.prog 8 #[.string ⟨l.toArray⟩] W fun e w' => (∃ va vc ra rn rc, e = .returned (.tuple #[.agg #[.slice va (De.len? (Ip.read l)) vc, .slice ra rn rc], .bool (Ip.read l).isSome])) ∧ Below W.heap.size W w') := fun l W hl hb => by
    refine (implRead l W hl (h2.below lo.1 hb) (h3.below lo.2 hb) ⟨by have := hb.size; have := lo.1; omega, by have := hb.size; have := lo.2; omega⟩).mono ?_
    rintro e w' ⟨h, hb⟩
    exact ⟨ans_short h, hb⟩
  have CS : Hid (∀ l W, l.length ≤ 1048576 → Calls Tryz.prog 9 #[.string ⟨l.toArray⟩] W fun e w' => (∃ va vl vc ra rn rc, e = .returned (.tuple #[.agg #[.slice va vl vc, .slice ra rn rc], .bool (Pr.read l).isSome])) ∧ Below W.heap.size W w') := fun l W hl => by
    refine (specReadProgram l W hl).mono ?_
    rintro e w' ⟨h, hb⟩
    obtain ⟨va, vc, ra, rn, rc, e2⟩ := ans_short h
    exact ⟨⟨va, _, vc, ra, rn, rc, e2⟩, hb⟩
  clear hc hbig h2 h3 lo
  go_enter Tryz.func3, Tryz.ntmps3
  go_wp2_with fail
  refine (CB.out _).mono ?_
  rintro e w0 ⟨rfl, rfl⟩
  clear CB
  go_wp2_with fail
  refine (drawPlaces_any ad n cap w0 hn HC.out).mono ?_
  rintro e w2 ⟨g, c, zs, -, hlt, rfl, hgu, hgl, hcell, b2⟩
  have hc0 := hcell 0 (by omega)
  have hp0 := hlt 0
  generalize zs.getD 0 0 = p0 at *
  have HB2 : Hid (Below w0.heap.size w0 w2) := b2
  clear hcell hlt b2 HC
  obtain ⟨m, hm⟩ : ∃ m : Nat, m = p0 % 40 := ⟨_, rfl⟩
  have hm40 : m < 40 := by omega
  have e1 : (p0 : Int) % 40 = (m : Int) := by omega
  have e2 : Int.tmod (p0 : Int) 40 = (m : Int) := by rw [Int.tmod_eq_emod_of_nonneg (by omega)]; exact e1
  clear hm
  go_wp2_with fail
  go_loopw [4, 5, 6] (fun sv tv iv wr => ∃ k : Nat, sv = .string (De.S k) ∧ tv = .string (De.T k) ∧ iv = .int .i64 (k : Int) ∧ k ≤ m ∧ wr = w2) (fun _ _ iv _ => m - (intOf iv).toNat)
  case atStart => exact ⟨0, rfl, rfl, rfl, by omega, rfl⟩
  case round =>
    obtain ⟨k, rfl, rfl, rfl, hk, rfl⟩ := hrel
    have sS := De.S_size k
    have sT := De.T_size k
    by_cases hlt : k < m
    · have d1 : decide ((k : Int) < (m : Int)) = true := decide_eq_true (by omega)
      have i1 : (k : Int) < (m : Int) := by omega
      have n1 : ¬ 9223372036854775807 < (De.S k).size + 1 := by omega
      have n2 : ¬ 9223372036854775807 < (De.T k).size + 1 := by omega
      have n3 : ¬ ((9223372036854775807 : Int) < ((De.S k).size : Int) + 1) := by omega
      have n4 : ¬ ((9223372036854775807 : Int) < ((De.T k).size : Int) + 1) := by omega
      have HS := hidOf2 (De.S_succ k)
      have HT := hidOf2 (De.T_succ k)
      clear sS sT
      go_wp2
      go_roundw
      case rel => exact ⟨k + 1, by rw [HS.out], by rw [HT.out], by go_num, by omega, by simp⟩
      case measure => simp [intOf]; omega
    · obtain rfl : k = m := by omega
      have hq : ¬ ((k : Int) < (k : Int)) := by omega
      have HF := hidOf2 (De.facts k hm40)
      have CW := hidOf2 (CR.out (De.whole k) wr (by rw [De.whole_len]; omega) HB2.out)
      rw [← De.whole_is] at CW
      have HWI := hidOf2 (De.whole_is k)
      have HHI := hidOf2 (De.half_is k)
      have hl1 := De.whole_len k
      have hl2 := De.half_len k
      have n1 : ¬ 9223372036854775807 < 8 + (De.S k).size := by omega
      have n2 : ¬ 9223372036854775807 < 8 + (De.S k).size + 1 := by omega
      have n3 : ¬ 9223372036854775807 < 8 + (De.S k).size + 1 + (De.T k).size := by omega
      have n4 : ¬ 9223372036854775807 < 8 + (De.S k).size + 1 + (De.T k).size + 2 := by omega
      have n5 : ¬ 9223372036854775807 < 8 + (De.S k).size + 3 := by omega
      have m1 : ¬ ((9223372036854775807 : Int) < 8 + ((De.S k).size : Int)) := by omega
      have m2 : ¬ ((9223372036854775807 : Int) < 8 + ((De.S k).size : Int) + 1) := by omega
      have m3 : ¬ ((9223372036854775807 : Int) < 8 + ((De.S k).size : Int) + 1 + ((De.T k).size : Int)) := by omega
      have m4 : ¬ ((9223372036854775807 : Int) < 8 + ((De.S k).size : Int) + 1 + ((De.T k).size : Int) + 2) := by omega
      have m5 : ¬ ((9223372036854775807 : Int) < 8 + ((De.S k).size : Int) + 3) := by omega
      clear sS sT hq
      by_cases h0 : k = 0
      · subst h0
        have l3 : De.len? (Ip.read (De.whole 0)) = 3 := HF.out.2.2 (by omega)
        have r1 : (Ip.read (De.whole 0)).isSome = true := by rw [HF.out.1.1]; rfl
        have r2 : (Pr.read (De.whole 0)).isSome = true := by rw [HF.out.1.2]; rfl
        have r3 : (Ip.read (De.half 0)).isSome = true := by rw [HF.out.2.1]; rfl
        rw [r1] at CW
        rw [l3] at CW
        go_wp2_with fail
        refine CW.out.mono ?_
        rintro e w3 ⟨⟨va, vc, ra, rn, rc, rfl⟩, b3⟩
        have hal : Below w3.heap.size w3 (w3.alloc (.cells #[.slice va 3 vc, .slice ra rn rc] 29)) := (Below.refl _ _).alloc (Nat.le_refl _) _
        have HB3 := hidOf2 (HB2.out.trans ((b3.trans (hal.mono b3.size)).mono HB2.out.size))
        have q3 := heap_alloc_new w3 (.cells #[.slice va 3 vc, .slice ra rn rc] 29)
        have C2 := hidOf2 (CS.out (De.whole 0) (w3.alloc (.cells #[.slice va 3 vc, .slice ra rn rc] 29)) (by rw [hl1]; omega))
        rw [r2, ← HWI.out] at C2
        have Q3 := hidOf2 q3
        clear b3 hal q3 CW
        go_wp2_with fail
        generalize w3.alloc (.cells #[.slice va 3 vc, .slice ra rn rc] 29) = W3 at *
        refine C2.out.mono ?_
        rintro e w4 ⟨⟨xa, xl, xc, ya, yn, yc, rfl⟩, b4⟩
        have HB4 := hidOf2 (HB3.out.trans (b4.mono HB3.out.size))
        have q4 : w4.heap[w3.heap.size]? = some (.cells #[.slice va 3 vc, .slice ra rn rc] 29 (0, 0)) := (b4.block _ (blk_lt Q3.out)).trans Q3.out
        have C3 : Hid (∀ W, Below w4.heap.size w4 W → _) := fun W hb => CR.out (De.half 0) W (by rw [hl2]; omega) (HB4.out.trans (hb.mono HB4.out.size))
        obtain ⟨LH, hLH⟩ : ∃ LH, LH = De.len? (Ip.read (De.half 0)) := ⟨_, rfl⟩
        rw [r3, ← HHI.out, ← hLH] at C3
        clear hLH
        have Q4 := hidOf2 q4
        clear b4 q4 C2 Q3 HB3
        go_wp2_with fail
        refine (C3.out _ ((Below.refl _ _).alloc (Nat.le_refl _) _)).mono ?_
        rintro e w5 ⟨⟨za, zc, ta, tn, tc, rfl⟩, b5⟩
        have b5a : Below w4.heap.size w4 w5 := (((Below.refl w4.heap.size w4).alloc (Nat.le_refl _) _).trans (b5.mono (by simp)))
        have b5b : Below w4.heap.size w4 (w5.alloc (.cells #[.slice za LH zc, .slice ta tn tc] 29)) := b5a.alloc b5a.size _
        have HB5 := hidOf2 (And.intro (HB4.out.trans (b5a.mono HB4.out.size)) (HB4.out.trans (b5b.mono HB4.out.size)))
        have q5 : (w5.alloc (.cells #[.slice za LH zc, .slice ta tn tc] 29)).heap[w3.heap.size]? = some (.cells #[.slice va 3 vc, .slice ra rn rc] 29 (0, 0)) := (b5b.block _ (blk_lt Q4.out)).trans Q4.out
        have q6 : w5.heap[w3.heap.size]? = some (.cells #[.slice va 3 vc, .slice ra rn rc] 29 (0, 0)) := (b5a.block _ (blk_lt Q4.out)).trans Q4.out
        obtain ⟨d0, d1⟩ := tcells2 q6
        obtain ⟨c0, c1⟩ := tcells2 q5
        clear b5 b5a b5b C3 HB4 Q4 q5 q6
        go_wp2
        go_ret
        first | exact ⟨rfl, HB5.out.2⟩ | exact ⟨rfl, HB5.out.1⟩
      · by_cases h13 : k ≤ 13
        · have l3 : De.len? (Ip.read (De.whole k)) = 3 := HF.out.2.2 h13
          have g1 : decide ((k : Int) ≤ 13) = true := decide_eq_true (by omega)
          have g2 : ((k : Int) == 0) = false := by simp; omega
          have g3 : ¬ (k : Int) = 0 := by omega
          have g4 : (k : Int) ≤ 13 := by omega
          have r1 : (Ip.read (De.whole k)).isSome = true := by rw [HF.out.1.1]; exact decide_eq_true h13
          have r2 : (Pr.read (De.whole k)).isSome = true := by rw [HF.out.1.2]; exact decide_eq_true h13
          have r3 : (Ip.read (De.half k)).isSome = false := by rw [HF.out.2.1]; exact decide_eq_false h0
          rw [r1] at CW
          rw [l3] at CW
          go_wp2_with fail
          refine CW.out.mono ?_
          rintro e w3 ⟨⟨va, vc, ra, rn, rc, rfl⟩, b3⟩
          have hal : Below w3.heap.size w3 (w3.alloc (.cells #[.slice va 3 vc, .slice ra rn rc] 29)) := (Below.refl _ _).alloc (Nat.le_refl _) _
          have HB3 := hidOf2 (HB2.out.trans ((b3.trans (hal.mono b3.size)).mono HB2.out.size))
          have q3 := heap_alloc_new w3 (.cells #[.slice va 3 vc, .slice ra rn rc] 29)
          have C2 := hidOf2 (CS.out (De.whole k) (w3.alloc (.cells #[.slice va 3 vc, .slice ra rn rc] 29)) (by rw [hl1]; omega))
          rw [r2, ← HWI.out] at C2
          have Q3 := hidOf2 q3
          clear b3 hal q3 CW
          go_wp2_with fail
          generalize w3.alloc (.cells #[.slice va 3 vc, .slice ra rn rc] 29) = W3 at *
          refine C2.out.mono ?_
          rintro e w4 ⟨⟨xa, xl, xc, ya, yn, yc, rfl⟩, b4⟩
          have HB4 := hidOf2 (HB3.out.trans (b4.mono HB3.out.size))
          have q4 : w4.heap[w3.heap.size]? = some (.cells #[.slice va 3 vc, .slice ra rn rc] 29 (0, 0)) := (b4.block _ (blk_lt Q3.out)).trans Q3.out
          have C3 : Hid (∀ W, Below w4.heap.size w4 W → _) := fun W hb => CR.out (De.half k) W (by rw [hl2]; omega) (HB4.out.trans (hb.mono HB4.out.size))
          obtain ⟨LH, hLH⟩ : ∃ LH, LH = De.len? (Ip.read (De.half k)) := ⟨_, rfl⟩
          rw [r3, ← HHI.out, ← hLH] at C3
          clear hLH
          have Q4 := hidOf2 q4
          clear b4 q4 C2 Q3 HB3
          go_wp2_with fail
          refine (C3.out _ ((Below.refl _ _).alloc (Nat.le_refl _) _)).mono ?_
          rintro e w5 ⟨⟨za, zc, ta, tn, tc, rfl⟩, b5⟩
          have b5a : Below w4.heap.size w4 w5 := (((Below.refl w4.heap.size w4).alloc (Nat.le_refl _) _).trans (b5.mono (by simp)))
          have b5b : Below w4.heap.size w4 (w5.alloc (.cells #[.slice za LH zc, .slice ta tn tc] 29)) := b5a.alloc b5a.size _
          have HB5 := hidOf2 (And.intro (HB4.out.trans (b5a.mono HB4.out.size)) (HB4.out.trans (b5b.mono HB4.out.size)))
          have q5 : (w5.alloc (.cells #[.slice za LH zc, .slice ta tn tc] 29)).heap[w3.heap.size]? = some (.cells #[.slice va 3 vc, .slice ra rn rc] 29 (0, 0)) := (b5b.block _ (blk_lt Q4.out)).trans Q4.out
          have q6 : w5.heap[w3.heap.size]? = some (.cells #[.slice va 3 vc, .slice ra rn rc] 29 (0, 0)) := (b5a.block _ (blk_lt Q4.out)).trans Q4.out
          obtain ⟨d0, d1⟩ := tcells2 q6
          obtain ⟨c0, c1⟩ := tcells2 q5
          clear b5 b5a b5b C3 HB4 Q4 q5 q6
          go_wp2
          go_ret
          first | exact ⟨rfl, HB5.out.2⟩ | exact ⟨rfl, HB5.out.1⟩
        · have g1 : decide ((k : Int) ≤ 13) = false := decide_eq_false (by omega)
          have g2 : ((k : Int) == 0) = false := by simp; omega
          have g3 : ¬ (k : Int) = 0 := by omega
          have g4 : ¬ (k : Int) ≤ 13 := by omega
          obtain ⟨LN, hLN⟩ : ∃ LN, LN = De.len? (Ip.read (De.whole k)) := ⟨_, rfl⟩
          have r1 : (Ip.read (De.whole k)).isSome = false := by rw [HF.out.1.1]; exact decide_eq_false h13
          have r2 : (Pr.read (De.whole k)).isSome = false := by rw [HF.out.1.2]; exact decide_eq_false h13
          have r3 : (Ip.read (De.half k)).isSome = false := by rw [HF.out.2.1]; exact decide_eq_false h0
          rw [r1] at CW
          rw [← hLN] at CW
          clear hLN
          go_wp2_with fail
          refine CW.out.mono ?_
          rintro e w3 ⟨⟨va, vc, ra, rn, rc, rfl⟩, b3⟩
          have hal : Below w3.heap.size w3 (w3.alloc (.cells #[.slice va LN vc, .slice ra rn rc] 29)) := (Below.refl _ _).alloc (Nat.le_refl _) _
          have HB3 := hidOf2 (HB2.out.trans ((b3.trans (hal.mono b3.size)).mono HB2.out.size))
          have q3 := heap_alloc_new w3 (.cells #[.slice va LN vc, .slice ra rn rc] 29)
          have C2 := hidOf2 (CS.out (De.whole k) (w3.alloc (.cells #[.slice va LN vc, .slice ra rn rc] 29)) (by rw [hl1]; omega))
          rw [r2, ← HWI.out] at C2
          have Q3 := hidOf2 q3
          clear b3 hal q3 CW
          go_wp2_with fail
          generalize w3.alloc (.cells #[.slice va LN vc, .slice ra rn rc] 29) = W3 at *
          refine C2.out.mono ?_
          rintro e w4 ⟨⟨xa, xl, xc, ya, yn, yc, rfl⟩, b4⟩
          have HB4 := hidOf2 (HB3.out.trans (b4.mono HB3.out.size))
          have q4 : w4.heap[w3.heap.size]? = some (.cells #[.slice va LN vc, .slice ra rn rc] 29 (0, 0)) := (b4.block _ (blk_lt Q3.out)).trans Q3.out
          have C3 : Hid (∀ W, Below w4.heap.size w4 W → _) := fun W hb => CR.out (De.half k) W (by rw [hl2]; omega) (HB4.out.trans (hb.mono HB4.out.size))
          obtain ⟨LH, hLH⟩ : ∃ LH, LH = De.len? (Ip.read (De.half k)) := ⟨_, rfl⟩
          rw [r3, ← HHI.out, ← hLH] at C3
          clear hLH
          have Q4 := hidOf2 q4
          clear b4 q4 C2 Q3 HB3
          go_wp2_with fail
          refine (C3.out _ ((Below.refl _ _).alloc (Nat.le_refl _) _)).mono ?_
          rintro e w5 ⟨⟨za, zc, ta, tn, tc, rfl⟩, b5⟩
          have b5a : Below w4.heap.size w4 w5 := (((Below.refl w4.heap.size w4).alloc (Nat.le_refl _) _).trans (b5.mono (by simp)))
          have b5b : Below w4.heap.size w4 (w5.alloc (.cells #[.slice za LH zc, .slice ta tn tc] 29)) := b5a.alloc b5a.size _
          have HB5 := hidOf2 (And.intro (HB4.out.trans (b5a.mono HB4.out.size)) (HB4.out.trans (b5b.mono HB4.out.size)))
          have q5 : (w5.alloc (.cells #[.slice za LH zc, .slice ta tn tc] 29)).heap[w3.heap.size]? = some (.cells #[.slice va LN vc, .slice ra rn rc] 29 (0, 0)) := (b5b.block _ (blk_lt Q4.out)).trans Q4.out
          have q6 : w5.heap[w3.heap.size]? = some (.cells #[.slice va LN vc, .slice ra rn rc] 29 (0, 0)) := (b5a.block _ (blk_lt Q4.out)).trans Q4.out
          obtain ⟨d0, d1⟩ := tcells2 q6
          obtain ⟨c0, c1⟩ := tcells2 q5
          clear b5 b5a b5b C3 HB4 Q4 q5 q6
          go_wp2
          go_ret
          first | exact ⟨rfl, HB5.out.2⟩ | exact ⟨rfl, HB5.out.1⟩
end PartLwDe
end Go.Proofs.YtoaipdckpecpoaaGreatDoor
