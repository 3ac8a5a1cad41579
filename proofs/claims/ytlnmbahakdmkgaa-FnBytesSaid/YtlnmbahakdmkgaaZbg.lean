/- What DrawPatterns answers: two of the drawn patterns, and some text of at most 14 bytes. Plain facts: what the drawn patterns are read to. -/
import Derived.Test.YtlnmbahakdmkgaaZbf
import Derived.Test.YtlnmbahakdmkgaaZaq
namespace Go.Proofs.Ytlnmbahakdmkgaa
section PartDT
open Go.RowKit

def texts04 : List (List UInt8) := [[97], [97, 98], [97, 42], [97, 43, 98], [40, 97, 98, 41, 42], [97, 124, 98], [94, 97], [98, 36], [91, 97, 98, 93, 43], [91, 94, 97, 93], [46, 98], [97, 63, 98], [40, 97, 124, 98, 41, 42, 99], [120, 46, 42], [92, 46], [40, 97, 42, 41, 42], [94, 36], [40, 124, 97, 41, 98], [49, 43], [97, 124], [40, 40, 97, 41, 98, 41, 43]]
def bits04 : List (List UInt8) := [[97], [98], [99], [97, 98], [46], [49]]
theorem bits04_len : ∀ t ∈ bits04, t.length ≤ 2 := by decide
theorem texts04_len : ∀ t ∈ texts04, t.length ≤ 7 := by decide
theorem lst_size (l : List UInt8) : (⟨l.toArray⟩ : ByteArray).size = l.length := by
  show l.toArray.size = _
  simp

set_option maxHeartbeats 1000000 in
set_option maxRecDepth 100000 in
theorem l04Text_any (B g n cap : Nat) (ad : Option Addr) (w : World) (hd : Drw B w g ad n cap) (hB : B ≤ w.heap.size) :
    Calls Try.prog 32 #[.pointer (some ⟨g, 0, none⟩)] w fun e w' => ∃ t : List UInt8, t ∈ texts04 ∧ e = .returned (.string ⟨t.toArray⟩) ∧ Drw B w' g ad n cap ∧ w.grownBy w' (some g) := by
  have C1 : Hid (Calls Try.prog 52 #[.pointer (some ⟨g, 0, none⟩), .slice (some ⟨w.heap.size, 0, none⟩) 21 21] (w.alloc (.cells (texts04.map sv).toArray 9))
      fun e w' => ∃ t : List UInt8, t ∈ texts04 ∧ e = .returned (.string ⟨t.toArray⟩) ∧ Drw B w' g ad n cap ∧ w.grownBy w' (some g)) := pickL_any B g n cap ad texts04 w hd hB (by decide) (by decide)
  clear hd
  go_enter Try.func32, Try.ntmps32
  go_wp2_with fail
  refine C1.out.mono ?_
  rintro e w1 ⟨t, ht, rfl, d1, g1⟩
  have HF : Hid (t ∈ texts04 ∧ Drw B w1 g ad n cap ∧ w.grownBy w1 (some g)) := ⟨ht, d1, g1⟩
  clear ht d1 g1 C1
  go_wp2_with fail
  go_ret
  exact ⟨t, HF.out.1, rfl, HF.out.2.1, HF.out.2.2⟩

set_option maxHeartbeats 1000000 in
set_option maxRecDepth 100000 in
theorem l04Word_any (B g n cap : Nat) (ad : Option Addr) (w : World) (hd : Drw B w g ad n cap) (hB : B ≤ w.heap.size) :
    Calls Try.prog 33 #[.pointer (some ⟨g, 0, none⟩)] w fun e w' => ∃ t : ByteArray, t.size ≤ 16 ∧ e = .returned (.string t) ∧ Drw B w' g ad n cap ∧ w.grownBy w' (some g) := by
  have HD : Hid (Drw B w g ad n cap) := hd
  clear hd
  go_enter Try.func33, Try.ntmps33
  go_wp2
  go_loopw [3, 4] (fun v i wr => ∃ (k : Nat) (t : ByteArray), i = .int .i64 (k : Int) ∧ v = .string t ∧ k ≤ 8 ∧ t.size ≤ 2 * k ∧ B ≤ wr.heap.size ∧ Hid (Drw B wr g ad n cap) ∧ Hid (w.grownBy wr (some g))) (fun _ i _ => 8 - (intOf i).toNat)
  case atStart => exact ⟨0, ⟨#[]⟩, rfl, rfl, by omega, by decide, hB, HD.out, grown_refl _ _⟩
  case round =>
    obtain ⟨k, t, rfl, rfl, hk, hts, hsz, HDR, HG⟩ := hrel
    go_wp2_with fail
    refine (below_any B g n cap ad 8 wr HDR.out (by decide) (by decide)).mono ?_
    rintro e w1 ⟨x, hx, rfl, d1, g1⟩
    have G1 : Hid (w.grownBy w1 (some g)) := grown_trans HG.out g1
    have s1 := g1.size
    have hB1 : B ≤ w1.heap.size := by omega
    have C1 : Hid (Calls Try.prog 52 #[.pointer (some ⟨g, 0, none⟩), .slice (some ⟨w1.heap.size, 0, none⟩) 6 6] (w1.alloc (.cells (bits04.map sv).toArray 9))
      fun e w' => ∃ t : List UInt8, t ∈ bits04 ∧ e = .returned (.string ⟨t.toArray⟩) ∧ Drw B w' g ad n cap ∧ w1.grownBy w' (some g)) := pickL_any B g n cap ad bits04 w1 d1 hB1 (by decide) (by decide)
    have D1 : Hid (Drw B w1 g ad n cap) := d1
    clear d1 g1
    by_cases hlt : k < x
    · have dlt : decide ((k : Int) < (x : Int)) = true := by simp; omega
      go_wp2_with fail
      refine C1.out.mono ?_
      rintro e w2 ⟨p, hp, rfl, d2, g2⟩
      have hpl : (⟨p.toArray⟩ : ByteArray).size ≤ 2 := by rw [lst_size]; exact bits04_len p hp
      generalize (⟨p.toArray⟩ : ByteArray) = pb at *
      have G2 : Hid (w.grownBy w2 (some g)) := grown_trans G1.out g2
      have D2 : Hid (Drw B w2 g ad n cap) := d2
      have s2 := g2.size
      have e1 : (t ++ pb).size = t.size + pb.size := app_size _ _
      have HE : Hid ((t ++ pb).size ≤ 2 * (k + 1)) := by show _ ≤ _; omega
      clear d2 g2 hp C1
      go_wp2
      go_roundw
      case rel => exact ⟨k + 1, _, by go_num, rfl, by omega, HE.out, by omega, D2.out, G2.out⟩
      case measure => simp [intOf]; omega
    · have dlt : decide ((k : Int) < (x : Int)) = false := by simp; omega
      clear C1
      go_wp2
      go_ret
      exact ⟨t, by omega, rfl, D1.out, G1.out⟩

set_option maxHeartbeats 1000000 in
set_option maxRecDepth 100000 in
theorem drawPatterns_any (ad : Option Addr) (n cap : Nat) (w : World) (hn : n ≤ 1048576) (hc : Code w ad n) :
    Calls Try.prog 12 #[.slice ad n cap] w fun e w' => ∃ (a b : List UInt8) (s : ByteArray), a ∈ texts04 ∧ b ∈ texts04 ∧ s.size ≤ 16 ∧ e = .returned (.tuple #[.string ⟨a.toArray⟩, .string ⟨b.toArray⟩, .string s]) ∧ Below w.heap.size w w' := by
  have HC : Hid (Code w ad n) := hc
  clear hc
  go_enter Try.func12, Try.ntmps12
  go_wp2_with fail
  refine (new_any ad n cap w hn HC.out).mono ?_
  rintro e w1 ⟨rfl, d1, s1, b1⟩
  have D1 : Hid (Drw (w.heap.size + 1) w1 w.heap.size ad n cap) := d1
  have B1 : Hid (Below w.heap.size w w1) := b1
  clear d1 b1
  go_wp2_with fail
  refine (l04Text_any _ _ n cap ad w1 D1.out (by omega)).mono ?_
  rintro e w2 ⟨a, ha, rfl, d2, g2⟩
  have D2 : Hid (Drw (w.heap.size + 1) w2 w.heap.size ad n cap) := d2
  have B2 : Hid (Below w.heap.size w w2) := B1.out.trans (below_of_grown g2 (Nat.le_refl _) (by omega))
  have s2 := g2.size
  have HA : Hid (a ∈ texts04) := ha
  clear d2 g2 D1 B1 ha
  obtain ⟨A, hA⟩ : ∃ A : ByteArray, A = ⟨a.toArray⟩ := ⟨_, rfl⟩
  rw [← hA]
  have HAA : Hid (A = ⟨a.toArray⟩) := hA
  clear hA
  go_wp2_with fail
  refine (l04Text_any _ _ n cap ad w2 D2.out (by omega)).mono ?_
  rintro e w3 ⟨b, hb, rfl, d3, g3⟩
  have D3 : Hid (Drw (w.heap.size + 1) w3 w.heap.size ad n cap) := d3
  have B3 : Hid (Below w.heap.size w w3) := B2.out.trans (below_of_grown g3 (Nat.le_refl _) (by omega))
  have s3 := g3.size
  have HB : Hid (b ∈ texts04) := hb
  clear d3 g3 D2 B2 hb
  obtain ⟨Bb, hBb⟩ : ∃ A : ByteArray, A = ⟨b.toArray⟩ := ⟨_, rfl⟩
  rw [← hBb]
  have HBB : Hid (Bb = ⟨b.toArray⟩) := hBb
  clear hBb
  go_wp2_with fail
  refine (l04Word_any _ _ n cap ad w3 D3.out (by omega)).mono ?_
  rintro e w4 ⟨s, hs, rfl, d4, g4⟩
  have B4 : Hid (Below w.heap.size w w4) := B3.out.trans (below_of_grown g4 (Nat.le_refl _) (by omega))
  clear d4 g4 D3 B3
  go_wp2_with fail
  go_ret3
  exact ⟨a, b, s, HA.out, HB.out, hs, by rw [← HAA.out, ← HBB.out]; rfl, B4.out⟩
end PartDT
section PartFnR
namespace Pp
/-- (a)|(b). -/
def altText (a b : List UInt8) : List UInt8 := [40] ++ a ++ [41, 124, 40] ++ b ++ [41]
def rowText (a b : List UInt8) : List UInt8 := [40] ++ a ++ [41, 40] ++ b ++ [41]
def manyText (a : List UInt8) (c : UInt8) : List UInt8 := [40] ++ a ++ [41, c]
def moreText (a : List UInt8) : List UInt8 := [40] ++ a ++ [41, 40] ++ a ++ [41, 42]
def okOne (a : List UInt8) : Bool := match read a with
  | some p => right p && decide (0 < p.length)
  | none => false
def okTwo (op : Nat) (a b t : List UInt8) : Bool := match read a, read b, read t with
  | some p, some q, some r => right r && within p r 0 && within q r p.length && decide (r.length = p.length + q.length + 1) && decide (r[p.length + q.length]? = some ⟨op, [], [p.length - 1, p.length + q.length - 1]⟩) && decide (0 < p.length) && decide (0 < q.length) && right p && right q
  | _, _, _ => false
def okMany (op : Nat) (a t : List UInt8) : Bool := match read a, read t with
  | some p, some r => right r && within p r 0 && decide (r.length = p.length + 1) && decide (r[p.length]? = some ⟨op, [], [p.length - 1]⟩) && decide (0 < p.length) && right p
  | _, _ => false
def okMore (a : List UInt8) : Bool := match read a, read (moreText a) with
  | some p, some r => right r && within p r 0 && within p r p.length && decide (r.length = p.length + p.length + 2) && decide (r[p.length + p.length]? = some ⟨7, [], [p.length + p.length - 1]⟩) && decide (r[p.length + p.length + 1]? = some ⟨5, [], [p.length - 1, p.length + p.length]⟩) && decide (0 < p.length) && right p
  | _, _ => false
end Pp
set_option maxRecDepth 100000 in
theorem okOne_all : ∀ a ∈ texts04, Pp.okOne a = true := by decide +kernel
set_option maxRecDepth 100000 in
theorem okAlt_all : ∀ a ∈ texts04, ∀ b ∈ texts04, Pp.okTwo 6 a b (Pp.altText a b) = true := by decide +kernel
set_option maxRecDepth 100000 in
theorem okRow_all : ∀ a ∈ texts04, ∀ b ∈ texts04, Pp.okTwo 5 a b (Pp.rowText a b) = true := by decide +kernel
set_option maxRecDepth 100000 in
theorem okStar_all : ∀ a ∈ texts04, Pp.okMany 7 a (Pp.manyText a 42) = true := by decide +kernel
set_option maxRecDepth 100000 in
theorem okPlus_all : ∀ a ∈ texts04, Pp.okMany 8 a (Pp.manyText a 43) = true := by decide +kernel
set_option maxRecDepth 100000 in
theorem okOpt_all : ∀ a ∈ texts04, Pp.okMany 9 a (Pp.manyText a 63) = true := by decide +kernel
set_option maxRecDepth 100000 in
theorem okMore_all : ∀ a ∈ texts04, Pp.okMore a = true := by decide +kernel
end PartFnR
end Go.Proofs.Ytlnmbahakdmkgaa
