/- The drawn texts: no star is among their bytes. Drawn places: twelve numbers, each of 0 .. 9999, in memory of their own. -/
import Derived.Test.YtlnmbahakdmkgaaZbg
import Derived.Test.YtlnmbahakdmkgaaZbf
namespace Go.Proofs.Ytlnmbahakdmkgaa
section PartDTs
open Go.RowKit

/-- No star among its bytes. -/
def NoStar (t : ByteArray) : Prop := ∀ b ∈ t.data.toList, b ≠ 42
theorem bits04_star : ∀ t ∈ bits04, ∀ b ∈ t, b ≠ 42 := by decide
theorem NoStar.app {a b : ByteArray} (ha : NoStar a) (hb : NoStar b) : NoStar (a ++ b) := by
  intro x hx
  have : x ∈ a.data.toList ++ b.data.toList := by simpa using hx
  rcases List.mem_append.1 this with h | h
  · exact ha x h
  · exact hb x h

set_option maxHeartbeats 1000000 in
set_option maxRecDepth 100000 in
theorem l04WordS_any (B g n cap : Nat) (ad : Option Addr) (w : World) (hd : Drw B w g ad n cap) (hB : B ≤ w.heap.size) :
    Calls Try.prog 33 #[.pointer (some ⟨g, 0, none⟩)] w fun e w' => ∃ t : ByteArray, t.size ≤ 16 ∧ NoStar t ∧ e = .returned (.string t) ∧ Drw B w' g ad n cap ∧ w.grownBy w' (some g) := by
  have HD : Hid (Drw B w g ad n cap) := hd
  clear hd
  go_enter Try.func33, Try.ntmps33
  go_wp2
  go_loopw [3, 4] (fun v i wr => ∃ (k : Nat) (t : ByteArray), i = .int .i64 (k : Int) ∧ v = .string t ∧ k ≤ 8 ∧ t.size ≤ 2 * k ∧ Hid (NoStar t) ∧ B ≤ wr.heap.size ∧ Hid (Drw B wr g ad n cap) ∧ Hid (w.grownBy wr (some g))) (fun _ i _ => 8 - (intOf i).toNat)
  case atStart => exact ⟨0, ⟨#[]⟩, rfl, rfl, by omega, by decide, (fun b hb => by cases hb), hB, HD.out, grown_refl _ _⟩
  case round =>
    obtain ⟨k, t, rfl, rfl, hk, hts, HNS, hsz, HDR, HG⟩ := hrel
    go_wp2_with fail
    refine (below_any B g n cap ad 8 wr HDR.out (by decide) (by decide)).mono ?_
    rintro e w1 ⟨x, hx, rfl, d1, g1⟩
    have G1 : Hid (w.grownBy w1 (some g)) := grown_trans HG.out g1
    have s1 := g1.size
    have hB1 : B ≤ w1.heap.size := by omega
    have C1 : Hid (Calls Try.prog 52 #[.pointer (some ⟨g, 0, none⟩), .slice (some ⟨w1.heap.size, 0, none⟩) 6 6] (w1.alloc (.cells (bits04.map sv).toArray 9))
      fun e w' => ∃ t : List UInt8, t ∈ bits04 ∧ e = .returned (.string ⟨t.toArray⟩) ∧ Drw B w' g ad n cap ∧ w1.grownBy w' (some g)) := pickL_any B g n cap ad bits04 w1 d1 hB1 (by decide) (by decide)
    have D1 : Hid (Drw B w1 g ad n cap) := d1
    clear d1 g1
    by_cases hlt : k < x
    · have dlt : decide ((k : Int) < (x : Int)) = true := by simp; omega
      go_wp2_with fail
      refine C1.out.mono ?_
      rintro e w2 ⟨p, hp, rfl, d2, g2⟩
      have hpl : (⟨p.toArray⟩ : ByteArray).size ≤ 2 := by rw [lst_size]; exact bits04_len p hp
      have hpn : NoStar ⟨p.toArray⟩ := fun b hb => bits04_star p hp b (by simpa using hb)
      generalize (⟨p.toArray⟩ : ByteArray) = pb at *
      have G2 : Hid (w.grownBy w2 (some g)) := grown_trans G1.out g2
      have D2 : Hid (Drw B w2 g ad n cap) := d2
      have s2 := g2.size
      have e1 : (t ++ pb).size = t.size + pb.size := app_size _ _
      have HE : Hid ((t ++ pb).size ≤ 2 * (k + 1)) := by show _ ≤ _; omega
      have HN2 : Hid (NoStar (t ++ pb)) := HNS.out.app hpn
      clear d2 g2 hp C1 hpn
      go_wp2
      go_roundw
      case rel => exact ⟨k + 1, _, by go_num, rfl, by omega, HE.out, HN2.out, by omega, D2.out, G2.out⟩
      case measure => simp [intOf]; omega
    · have dlt : decide ((k : Int) < (x : Int)) = false := by simp; omega
      clear C1
      go_wp2
      go_ret
      exact ⟨t, by omega, HNS.out, rfl, D1.out, G1.out⟩

set_option maxHeartbeats 1000000 in
set_option maxRecDepth 100000 in
theorem drawPatternsS_any (ad : Option Addr) (n cap : Nat) (w : World) (hn : n ≤ 1048576) (hc : Code w ad n) :
    Calls Try.prog 12 #[.slice ad n cap] w fun e w' => ∃ (a b : List UInt8) (s : ByteArray), a ∈ texts04 ∧ b ∈ texts04 ∧ s.size ≤ 16 ∧ NoStar s ∧ e = .returned (.tuple #[.string ⟨a.toArray⟩, .string ⟨b.toArray⟩, .string s]) ∧ Below w.heap.size w w' := by
  have HC : Hid (Code w ad n) := hc
  clear hc
  go_enter Try.func12, Try.ntmps12
  go_wp2_with fail
  refine (new_any ad n cap w hn HC.out).mono ?_
  rintro e w1 ⟨rfl, d1, s1, b1⟩
  have D1 : Hid (Drw (w.heap.size + 1) w1 w.heap.size ad n cap) := d1
  have B1 : Hid (Below w.heap.size w w1) := b1
  clear d1 b1
  go_wp2_with fail
  refine (l04Text_any _ _ n cap ad w1 D1.out (by omega)).mono ?_
  rintro e w2 ⟨a, ha, rfl, d2, g2⟩
  have D2 : Hid (Drw (w.heap.size + 1) w2 w.heap.size ad n cap) := d2
  have B2 : Hid (Below w.heap.size w w2) := B1.out.trans (below_of_grown g2 (Nat.le_refl _) (by omega))
  have s2 := g2.size
  have HA : Hid (a ∈ texts04) := ha
  clear d2 g2 D1 B1 ha
  obtain ⟨A, hA⟩ : ∃ A : ByteArray, A = ⟨a.toArray⟩ := ⟨_, rfl⟩
  rw [← hA]
  have HAA : Hid (A = ⟨a.toArray⟩) := hA
  clear hA
  go_wp2_with fail
  refine (l04Text_any _ _ n cap ad w2 D2.out (by omega)).mono ?_
  rintro e w3 ⟨b, hb, rfl, d3, g3⟩
  have D3 : Hid (Drw (w.heap.size + 1) w3 w.heap.size ad n cap) := d3
  have B3 : Hid (Below w.heap.size w w3) := B2.out.trans (below_of_grown g3 (Nat.le_refl _) (by omega))
  have s3 := g3.size
  have HB : Hid (b ∈ texts04) := hb
  clear d3 g3 D2 B2 hb
  obtain ⟨Bb, hBb⟩ : ∃ A : ByteArray, A = ⟨b.toArray⟩ := ⟨_, rfl⟩
  rw [← hBb]
  have HBB : Hid (Bb = ⟨b.toArray⟩) := hBb
  clear hBb
  go_wp2_with fail
  refine (l04WordS_any _ _ n cap ad w3 D3.out (by omega)).mono ?_
  rintro e w4 ⟨s, hs, hns, rfl, d4, g4⟩
  have HNS : Hid (NoStar s) := hns
  have B4 : Hid (Below w.heap.size w w4) := B3.out.trans (below_of_grown g4 (Nat.le_refl _) (by omega))
  clear d4 g4 D3 B3 hns
  go_wp2_with fail
  go_ret3
  exact ⟨a, b, s, HA.out, HB.out, hs, HNS.out, by rw [← HAA.out, ← HBB.out]; rfl, B4.out⟩
end PartDTs
section PartDPp
open Go.RowKit

def ivp (z : Nat) : Value := .int .i64 (z : Int)
theorem infoIp : (Try.prog.info? 3).map (fun i => (i.zero, i.size, i.bytes)) = some (some (.int .i64 0), 1, 8) := by kernel_rfl
/-- The row of the numbers zs, in the call's own memory from block B on. -/
def IRow (B : Nat) (w : World) (v : Value) (zs : List Nat) : Prop := w.ownsRow B 3 1 v zs.length (zs.map ivp)
theorem IRow.made {B : Nat} (w : World) (hb : B ≤ w.heap.size) : IRow B (w.alloc (.cells #[] 3)) (.slice (some ⟨w.heap.size, 0, none⟩) 0 0) [] := World.ownsRow_made w #[] 0 hb (by decide) rfl
theorem IRow.alloc {B : Nat} {w : World} {v : Value} {zs : List Nat} (h : IRow B w v zs) (o : Obj) : IRow B (w.alloc o) v zs := World.ownsRow.alloc h o
theorem IRow.kept {B : Nat} {w w' : World} {v : Value} {zs : List Nat} {g : Nat} (h : IRow B w v zs) (hg : w.grownBy w' (some g)) (hB : g < B) : IRow B w' v zs := by
  refine World.ownsRow.kept h hg (.inr ?_)
  intro e
  have := (World.ownsRow.lt h g e).1
  omega
/-- One number more. -/
theorem IRow.push {ops : Array Oper} {rest : List Oper} {o : Oper} {a : Act} {Q : Exit → Act → World → Prop} {B : Nat} {w : World} {v : Value} {zs : List Nat}
    (hown : IRow B w v zs) (hgd : o.guard = none) (s x : Operand)
    (ho : o.op = .call { callee := .builtin .append, args := #[s, x], argTypes := #[40, 40] })
    (hs : a.eval s = v) (z : Int) (c : Nat) (hz : z = (c : Int)) (hx : a.eval x = .slice (some ⟨w.heap.size, 0, none⟩) 1 1)
    (hlen : zs.length < 1000000) (hB : B ≤ w.heap.size)
    (h : ∀ v' w', IRow B w' v' (zs ++ [c]) → Below B w w' → wpList Try.prog ops Q rest (a.put o.dst v') w') :
    wpList Try.prog ops Q (o :: rest) a (w.alloc (.cells #[.int .i64 z] 3)) := by
  subst hz
  obtain ⟨i0, hi, hz0, hz1, hz2⟩ := info_parts infoIp
  refine wpList_append_own _ hgd s x 40 ho B 3 i0 (.int .i64 0) 1 8 Try.underlying40 hi hz0 hz1 hz2 rfl (by decide) v zs.length (zs.map ivp) hs (hown.alloc _) ⟨w.heap.size, 0, none⟩ 1 1 [ivp c] hx rfl (cell_one_new _ _ _) ?_ ?_ ?_ ?_ ?_
  · intro u hu; simp at hu; subst hu; rfl
  · unfold maxLen; omega
  · omega
  · simp; omega
  · intro v' w' h2 h3 _
    refine h v' w' ?_ ?_
    · unfold IRow; simpa using h2
    · exact ((Below.refl B w).alloc hB _).grown h3 (by simp; omega) (fun k hk => (hown.lt k hk).1)
theorem IRow.form {B : Nat} {w : World} {v : Value} {zs : List Nat} (h : IRow B w v zs) (hne : zs ≠ []) :
    ∃ g cap, v = .slice (some ⟨g, 0, none⟩) zs.length cap ∧ B ≤ g ∧ g < w.heap.size ∧ ∀ j, j < zs.length → w.cell? ⟨g, j, none⟩ = some (.int .i64 ((zs.getD j 0 : Nat) : Int)) := by
  rcases h.2 with ⟨_, hn⟩ | ⟨g, cap, cur, rfl, h1, hg, _⟩
  · exact absurd (by simpa using hn) hne
  · refine ⟨g, cap, rfl, h1, (Array.getElem?_eq_some_iff.1 hg).1, fun j hj => ?_⟩
    rw [World.ownsRow.cellAt h j (by omega)]
    simp [hj, ivp]

set_option maxHeartbeats 1000000 in
set_option maxRecDepth 100000 in
theorem drawPlaces_any (ad : Option Addr) (n cap : Nat) (w : World) (hn : n ≤ 1048576) (hc : Code w ad n) :
    Calls Try.prog 16 #[.slice ad n cap] w fun e w' => ∃ (g c : Nat) (zs : List Nat), zs.length = 12 ∧ (∀ j, zs.getD j 0 < 10000) ∧ e = .returned (.slice (some ⟨g, 0, none⟩) 12 c) ∧ w.heap.size ≤ g ∧ g < w'.heap.size ∧
      (∀ j, j < 12 → w'.cell? ⟨g, j, none⟩ = some (.int .i64 ((zs.getD j 0 : Nat) : Int))) ∧ Below w.heap.size w w' := by
  have HC : Hid (Code w ad n) := hc
  clear hc
  go_enter Try.func16, Try.ntmps16
  go_wp2_with fail
  refine (new_any ad n cap w hn HC.out).mono ?_
  rintro e w1 ⟨rfl, d1, s1, b1⟩
  have D1 : Hid (Drw (w.heap.size + 1) w1 w.heap.size ad n cap) := d1
  clear d1
  go_wp2_with fail
  refine (byte_any _ _ n cap ad w1 D1.out).mono ?_
  rintro e w2 ⟨x, hx, rfl, d2, g2⟩
  have D2 : Hid (Drw (w.heap.size + 1) w2 w.heap.size ad n cap) := d2
  have B2 : Hid (Below w.heap.size w w2) := b1.trans (below_of_grown g2 (Nat.le_refl _) (by omega))
  have s2 := g2.size
  clear d2 g2 b1 hx
  go_wp2
  go_loopw [4, 5] (fun v i wr => ∃ (k : Nat) (zs : List Nat), i = .int .i64 (k : Int) ∧ k ≤ 12 ∧ IRow (w.heap.size + 1) wr v zs ∧ w.heap.size + 1 ≤ wr.heap.size ∧ Hid (zs.length = k) ∧ Hid (∀ j, zs.getD j 0 < 10000) ∧ Hid (Drw (w.heap.size + 1) wr w.heap.size ad n cap) ∧ Hid (Below w.heap.size w wr)) (fun _ i _ => 12 - (intOf i).toNat)
  case atStart => exact ⟨0, [], rfl, by omega, IRow.made w2 (by omega), by simp; omega, rfl, (by show ∀ j, _; simp), D2.out.keep ((Below.refl _ _).alloc (by omega) _), B2.out.alloc B2.out.size _⟩
  case round =>
    obtain ⟨k, zs, rfl, hk, hrow, hsz, HL, HZ, HDR, HB⟩ := hrel
    by_cases hlt : k < 12
    · go_wp2_with fail
      refine (below_any _ _ n cap ad 10000 wr HDR.out (by decide) (by decide)).mono ?_
      rintro e w3 ⟨x, hx, rfl, d3, g3⟩
      have hrow1 := hrow.kept g3 (by omega)
      have D3 : Hid (Drw (w.heap.size + 1) w3 w.heap.size ad n cap) := d3
      have B3 : Hid (Below w.heap.size w w3) := HB.out.trans (below_of_grown g3 (Nat.le_refl _) (by omega))
      have hs1 := g3.size
      have hlen : zs.length < 1000000 := by have := HL.out; omega
      clear d3 g3 hrow
      go_wp2_with (at_builtin; go_must (refine hrow1.push rfl (.tmp 15) (.tmp 18) rfl rfl _ x ?hz rfl ?hl ?hb ?_))
      case hz => omega
      case hl => omega
      case hb => omega
      · intro v' w4 hrow' hbel'
        have B4 : Hid (Below w.heap.size w w4) := B3.out.trans (hbel'.mono (by omega))
        have HZ2 : Hid (∀ j, (zs ++ [x]).getD j 0 < 10000) := by
          show ∀ j, _
          intro j
          have h1 := HZ.out j
          rcases Nat.lt_trichotomy j zs.length with h | h | h
          · rw [List.getD_eq_getElem?_getD, List.getElem?_append_left h, ← List.getD_eq_getElem?_getD]; exact h1
          · subst h; simp; exact hx
          · rw [List.getD_eq_getElem?_getD, List.getElem?_eq_none (by simp; omega)]; decide
        go_wp2
        go_roundw
        case rel => exact ⟨k + 1, _, by go_num, by omega, hrow', by have := hbel'.size; omega, by have := HL.out; show _ = _; simp; omega, HZ2.out, D3.out.keep hbel', B4.out⟩
        case measure => simp [intOf]; omega
    · have hl12 : zs.length = 12 := by have := HL.out; omega
      obtain ⟨g, c, rfl, hg1, hg2, hcell⟩ := hrow.form (by intro e; rw [e] at hl12; cases hl12)
      rw [hl12] at hcell ⊢
      have HCL : Hid _ := hcell
      clear hcell
      go_wp2
      go_ret
      exact ⟨g, c, zs, hl12, HZ.out, rfl, by omega, hg2, HCL.out, HB.out⟩

end PartDPp
end Go.Proofs.Ytlnmbahakdmkgaa
