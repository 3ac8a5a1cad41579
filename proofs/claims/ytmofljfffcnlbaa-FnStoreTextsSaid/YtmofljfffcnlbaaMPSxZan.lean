/- Drawn texts: each is some text within its bounds, and nothing that was there is written. Once in so many draws: some Boolean. Plain facts: when a program is right. The specification of Tokens: letters, figures, what stands between two marks. -/
import Derived.Test.YtmofljfffcnlbaaMPSxZak
import Derived.Test.YtmofljfffcnlbaaMPSxZam
import Derived.Test.YtmofljfffcnlbaaMPSxZad
import Derived.Test.YtmofljfffcnlbaaMPSxZab
import Derived.Test.YtmofljfffcnlbaaMPSxZaa
import Derived.Test.YtmofljfffcnlbaaMPSxZaf
namespace Go.Proofs.Ytmofljfffcnlbaa
section PartDC
open Go.RowKit

theorem Row.kept {B : Nat} {w w' : World} {v : Value} {bs : List UInt8} {g : Nat} (h : Row B w v bs) (hg : w.grownBy w' (some g)) (hB : g < B) : Row B w' v bs := by
  refine World.ownsRow.kept h hg (.inr ?_)
  intro e
  have := (World.ownsRow.lt h g e).1
  omega

theorem grown_below {w w1 w2 : World} {r : Option Nat} (h : w.grownBy w1 r) (hb : Below w.heap.size w1 w2) : w.grownBy w2 r :=
  ⟨hb.os.trans h.os, hb.tape.trans h.tape, hb.output.trans h.output, Nat.le_trans h.size hb.size, fun k hk hne => (hb.block k hk).trans (h.block k hk hne)⟩

set_option maxHeartbeats 1000000 in
set_option maxRecDepth 100000 in
/-- m drawn bytes. -/
theorem text_any (B g n cap : Nat) (ad : Option Addr) (m : Nat) (w : World) (hd : Drw B w g ad n cap) (hB : B ≤ w.heap.size) (hm : m ≤ 5000) :
    Calls Try.prog 44 #[.pointer (some ⟨g, 0, none⟩), .int .i64 (m : Int)] w fun e w' => ∃ bs : List UInt8, bs.length = m ∧ e = .returned (.string ⟨bs.toArray⟩) ∧ Drw B w' g ad n cap ∧ w.grownBy w' (some g) := by
  have HD : Hid (Drw B w g ad n cap) := hd
  have hgl := hd.low
  clear hd
  go_enter Try.func44, Try.ntmps44
  go_wp2
  go_loopw [5, 6] (fun v i wr => ∃ (k : Nat) (bs : List UInt8), i = .int .i64 (k : Int) ∧ k ≤ m ∧ Row w.heap.size wr v bs ∧ w.heap.size ≤ wr.heap.size ∧ Hid (bs.length = k) ∧ Hid (Drw B wr g ad n cap) ∧ Hid (w.grownBy wr (some g))) (fun _ i _ => m - (intOf i).toNat)
  case atStart => exact ⟨0, [], rfl, by omega, Row.made w #[] 0 (Nat.le_refl _) (by decide) rfl, by simp, rfl, HD.out.keep ((Below.refl _ _).alloc hB _), World.grownBy_alloc w _ _⟩
  case round =>
    obtain ⟨k, bs, rfl, hk, hrow, hsz, HL, HDR, HGR⟩ := hrel
    by_cases hlt : k < m
    · go_wp2_with fail
      refine (byte_any B g n cap ad wr HDR.out).mono ?_
      rintro e w1 ⟨x, hx, rfl, d1, g1⟩
      have hrow1 := hrow.kept g1 (by omega)
      have D1 : Hid (Drw B w1 g ad n cap) := d1
      have G1 : Hid (w.grownBy w1 (some g)) := grown_trans HGR.out g1
      have hs1 := g1.size
      have hlen : bs.length < 5000 := by have := HL.out; omega
      clear d1 g1 hrow
      go_wp2_with (at_builtin; go_must (refine hrow1.push rfl (.tmp 15) (.tmp 19) rfl rfl _ (UInt8.ofNat x) ?hz rfl ?hl ?hb ?_))
      case hz => have := Pl.small x hx; omega
      case hl => omega
      case hb => omega
      · intro v' w2 hrow' hbel'
        have hb2 : Below B w1 w2 := hbel'.mono (by omega)
        have GR : Hid (w.grownBy w2 (some g)) := grown_below G1.out hbel'
        go_wp2
        go_roundw
        case rel => exact ⟨k + 1, _, by go_num, by omega, hrow', by have := hbel'.size; omega, by have := HL.out; show _ = _; simp; omega, D1.out.keep hb2, GR.out⟩
        case measure => simp [intOf]; omega
    · have hst := hrow.str
      go_wp2
      go_ret
      exact ⟨bs, by have := HL.out; omega, rfl, HDR.out, HGR.out⟩
end PartDC
section PartDOn
open Go.RowKit

set_option maxHeartbeats 400000 in
theorem once_any (B g n cap : Nat) (ad : Option Addr) (m : Nat) (w : World) (hd : Drw B w g ad n cap) (hm : 0 < m) (hm2 : m ≤ 4294967296) :
    Calls Try.prog 23 #[.pointer (some ⟨g, 0, none⟩), .int .i64 (m : Int)] w fun e w' => ∃ b : Bool, e = .returned (.bool b) ∧ Drw B w' g ad n cap ∧ w.grownBy w' (some g) := by
  have HD : Hid (Drw B w g ad n cap) := hd
  clear hd
  go_enter Try.func23, Try.ntmps23
  go_wp2_with fail
  refine (below_any B g n cap ad m w HD.out hm hm2).mono ?_
  rintro e w1 ⟨x, hx, rfl, d1, g1⟩
  have D1 : Hid (Drw B w1 g ad n cap) := d1
  have G1 : Hid (w.grownBy w1 (some g)) := g1
  clear d1 g1
  go_wp2
  go_ret
  exact ⟨_, rfl, D1.out, G1.out⟩
end PartDOn
section PartPgP
namespace Pg

/-- The words that are no names. -/
def words : List (List UInt8) := [[66, 69, 71, 73, 78], [69, 78, 68], [112, 114, 105, 110, 116], [110, 101, 120, 116], [100, 117, 109, 112], [105, 102], [101, 108, 115, 101], [108, 101, 110, 103, 116, 104], [78, 70], [78, 82]]
def name (t : List UInt8) : Bool := !(words.contains t) && t.all Tk.letter && decide (1 ≤ t.length ∧ t.length ≤ 8)
def plain (t : List UInt8) (most : Nat) (m : UInt8) : Bool := t.all (fun b => b != m && b != 10) && decide (t.length ≤ most)
/-- Is the text as its op wants it? -/
def text (op : Int) (t : List UInt8) : Bool :=
  if op = 1 then Pv.isn t
  else if op = 2 then plain t 30 34
  else if op = 3 ∨ op = 4 ∨ op = 18 ∨ op = 19 ∨ op = 20 ∨ op = 21 ∨ op = 25 then name t
  else if op = 16 then (Pp.read t).isSome && plain t 24 47
  else t.isEmpty
/-- How many kids at least and at most. -/
def many (op : Int) : Nat × Nat :=
  if op = 4 ∨ op = 5 ∨ op = 8 ∨ op = 16 ∨ op = 18 ∨ op = 19 then (1, 1)
  else if op = 9 ∨ op = 10 ∨ op = 11 ∨ op = 12 ∨ op = 13 ∨ op = 14 ∨ op = 15 ∨ op = 20 ∨ op = 21 then (2, 2)
  else if op = 17 then (1, 4)
  else if op = 22 then (2, 3)
  else if op = 24 then (0, 20)
  else (0, 0)
def ex (op : Int) : Bool := decide (1 ≤ op ∧ op ≤ 16)
/-- Is kid number k of node i, x, as it must be? -/
def kid (ps : List Pi) (i : Nat) (x : Pi) (k : Nat) : Bool :=
  decide (0 ≤ x.kids.getD k 0 ∧ x.kids.getD k 0 ≤ (i : Int) - 1) &&
  !((decide (x.op = 24) || (decide (x.op = 22) && decide (0 < k))) == ex (ps.getD (x.kids.getD k 0).toNat Pi.no).op || (decide (x.op = 22) && decide ((ps.getD (x.kids.getD k 0).toNat Pi.no).op = 22)))
def node (ps : List Pi) (i : Nat) : Bool :=
  decide (1 ≤ (ps.getD i Pi.no).op ∧ (ps.getD i Pi.no).op ≤ 25) && text (ps.getD i Pi.no).op (ps.getD i Pi.no).text.data.toList && decide ((many (ps.getD i Pi.no).op).1 ≤ (ps.getD i Pi.no).kids.length ∧ (ps.getD i Pi.no).kids.length ≤ (many (ps.getD i Pi.no).op).2) &&
  (List.range (ps.getD i Pi.no).kids.length).all (kid ps i (ps.getD i Pi.no))
/-- A rule: when, if, do. -/
structure Rl where
  when : Int
  cond : Int
  act : Int
def Rl.no : Rl := ⟨0, 0, 0⟩
def rule (ps : List Pi) (r : Rl) : Bool :=
  decide (1 ≤ r.when ∧ r.when ≤ 3) && decide (0 ≤ r.act ∧ r.act ≤ (ps.length : Int) - 1) && decide ((ps.getD r.act.toNat Pi.no).op = 24) &&
  (decide (r.cond = -1) || (decide (r.when = 2) && decide (0 ≤ r.cond ∧ r.cond ≤ (ps.length : Int) - 1) && ex (ps.getD r.cond.toNat Pi.no).op))
def ok (ps : List Pi) (rs : List Rl) : Bool := decide (ps.length ≤ 200) && decide (rs.length ≤ 12) && (List.range ps.length).all (node ps) && rs.all (rule ps)
end Pg
open Go.RowKit

/-- The slice v leads to the rules rs. -/
def RlsAt (w : World) (v : Value) (rs : List Pg.Rl) : Prop := ∃ (a : Option Addr) (c : Nat), v = .slice a rs.length c ∧
  (0 < rs.length → ∃ b o, a = some ⟨b, o, none⟩ ∧ b < w.heap.size ∧ ∀ i, i < rs.length → w.cell? ⟨b, o + i * 3, none⟩ = some (.int .i64 (rs.getD i Pg.Rl.no).when) ∧ w.cell? ⟨b, o + i * 3 + 1, none⟩ = some (.int .i64 (rs.getD i Pg.Rl.no).cond) ∧ w.cell? ⟨b, o + i * 3 + 2, none⟩ = some (.int .i64 (rs.getD i Pg.Rl.no).act))
theorem RlsAt.keep {w w' : World} {v : Value} {rs : List Pg.Rl} (h : RlsAt w v rs) (hb : Below w.heap.size w w') : RlsAt w' v rs := by
  obtain ⟨ka, kc, rfl, f⟩ := h
  refine ⟨ka, kc, rfl, fun h0 => ?_⟩
  obtain ⟨b, o, rfl, hl, hc⟩ := f h0
  exact ⟨b, o, rfl, Nat.lt_of_lt_of_le hl hb.size, fun i hi => ⟨(hb.cell hl).trans (hc i hi).1, (hb.cell hl).trans (hc i hi).2.1, (hb.cell hl).trans (hc i hi).2.2⟩⟩

end PartPgP
section PartTkA
open Go.RowKit

set_option maxHeartbeats 1000000 in
theorem spLetter (c : UInt8) (w : World) : Calls Try.prog 47 #[.int .u8 (c.toNat : Int)] w fun e w' => e = .returned (.bool (Tk.letter c)) ∧ w' = w := by
  obtain ⟨z, hz⟩ : ∃ z, z = c.toNat := ⟨_, rfl⟩
  have h256 : c.toNat < 256 := c.toNat_lt
  rw [← hz] at h256
  have HL : Hid (Tk.letter c = ((decide (97 ≤ z) && decide (z ≤ 122)) || (decide (65 ≤ z) && decide (z ≤ 90)))) := by rw [hz]; rfl
  rw [← hz]
  clear hz
  rcases (show z < 65 ∨ (65 ≤ z ∧ z ≤ 90) ∨ (90 < z ∧ z < 97) ∨ (97 ≤ z ∧ z ≤ 122) ∨ 122 < z by omega) with h | h | h | h | h
  · have e : Tk.letter c = false := by rw [HL.out]; simp; omega
    rw [e]; clear e HL
    have d1 : decide ((97 : Int) ≤ (z : Int)) = false := by simp; omega
    have d2 : decide ((z : Int) ≤ 122) = true := by simp; omega
    have d3 : decide ((65 : Int) ≤ (z : Int)) = false := by simp; omega
    have d4 : decide ((z : Int) ≤ 90) = true := by simp; omega
    go_enter Try.func47, Try.ntmps47
    go_wp2
    go_ret
    exact ⟨rfl, rfl⟩
  · have e : Tk.letter c = true := by rw [HL.out]; simp; omega
    rw [e]; clear e HL
    have d1 : decide ((97 : Int) ≤ (z : Int)) = false := by simp; omega
    have d2 : decide ((z : Int) ≤ 122) = true := by simp; omega
    have d3 : decide ((65 : Int) ≤ (z : Int)) = true := by simp; omega
    have d4 : decide ((z : Int) ≤ 90) = true := by simp; omega
    go_enter Try.func47, Try.ntmps47
    go_wp2
    go_ret
    exact ⟨rfl, rfl⟩
  · have e : Tk.letter c = false := by rw [HL.out]; simp; omega
    rw [e]; clear e HL
    have d1 : decide ((97 : Int) ≤ (z : Int)) = false := by simp; omega
    have d2 : decide ((z : Int) ≤ 122) = true := by simp; omega
    have d3 : decide ((65 : Int) ≤ (z : Int)) = true := by simp; omega
    have d4 : decide ((z : Int) ≤ 90) = false := by simp; omega
    go_enter Try.func47, Try.ntmps47
    go_wp2
    go_ret
    exact ⟨rfl, rfl⟩
  · have e : Tk.letter c = true := by rw [HL.out]; simp; omega
    rw [e]; clear e HL
    have d1 : decide ((97 : Int) ≤ (z : Int)) = true := by simp; omega
    have d2 : decide ((z : Int) ≤ 122) = true := by simp; omega
    have d3 : decide ((65 : Int) ≤ (z : Int)) = true := by simp; omega
    have d4 : decide ((z : Int) ≤ 90) = false := by simp; omega
    go_enter Try.func47, Try.ntmps47
    go_wp2
    go_ret
    exact ⟨rfl, rfl⟩
  · have e : Tk.letter c = false := by rw [HL.out]; simp; omega
    rw [e]; clear e HL
    have d1 : decide ((97 : Int) ≤ (z : Int)) = true := by simp; omega
    have d2 : decide ((z : Int) ≤ 122) = false := by simp; omega
    have d3 : decide ((65 : Int) ≤ (z : Int)) = true := by simp; omega
    have d4 : decide ((z : Int) ≤ 90) = false := by simp; omega
    go_enter Try.func47, Try.ntmps47
    go_wp2
    go_ret
    exact ⟨rfl, rfl⟩

theorem lst_at (s : ByteArray) (j : Nat) (h : j < s.size) : s.data.toList[j]'(by simpa using h) = s[j] := rfl
end PartTkA
end Go.Proofs.Ytmofljfffcnlbaa
