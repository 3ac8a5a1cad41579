/- Plain facts, without the program: a number in decimal figures, and when a text of figures is that of its number. The law's own marks: the text of a mark. Frames: nothing but some blocks has changed. -/
import Derived.Test.YtbghghflepjdkaaZad
import Derived.Test.YtbghghflepjdkaaZab
namespace Go.Proofs.Ytbghghflepjdkaa
section PartPlainF
namespace Pl

/-- The byte of a decimal figure. -/
def ch (d : Nat) : UInt8 := UInt8.ofNat (48 + d)
theorem ch_nat (d : Nat) (h : d < 200) : (ch d).toNat = 48 + d := small _ (by omega)

/-- The figures of n, none of nought; at most f of them. -/
def dg : Nat → Nat → List UInt8
  | 0, _ => []
  | f + 1, n => if n = 0 then [] else dg f (n / 10) ++ [ch (n % 10)]
theorem dg_zero (f : Nat) : dg f 0 = [] := by cases f <;> rfl
theorem dg_more (f n : Nat) (h : n ≠ 0) : dg (f + 1) n = dg f (n / 10) ++ [ch (n % 10)] := by rw [dg, if_neg h]

/-- The text of a list of worths. -/
def txt (vs : List UInt8) : List UInt8 := vs.map fun v => ch v.toNat

end Pl
end PartPlainF
section PartMkT
open Go.RowKit

theorem cat1 (c : UInt8) (t : List UInt8) : (⟨[c].toArray⟩ : ByteArray) ++ (⟨t.toArray⟩ : ByteArray) = ⟨(c :: t).toArray⟩ := by
  apply ByteArray.ext
  simp

theorem dg_round (n f m : Nat) (t : List UInt8) (hf : m < 10 ^ f) (he : Pl.dg f m ++ t = Pl.dg 20 n) (h : m ≠ 0) :
    ∃ g, f = g + 1 ∧ m / 10 < 10 ^ g ∧ Pl.dg g (m / 10) ++ (Pl.ch (m % 10) :: t) = Pl.dg 20 n := by
  cases f with
  | zero => simp at hf; omega
  | succ g =>
    refine ⟨g, rfl, ?_, ?_⟩
    · rw [Nat.pow_succ] at hf; omega
    · rw [Pl.dg_more g m h] at he; simpa using he

theorem ret_str {a b : ByteArray} (h : a = b) : Ending.returned (.string a) = Ending.returned (.string b) := by rw [h]

/-- The mark of k. -/
def mk (k : Nat) : List UInt8 := 109 :: Pl.dg 20 k

set_option maxHeartbeats 800000 in
set_option maxRecDepth 100000 in
theorem markText_any (n : Nat) (w : World) (h0 : 0 < n) (hn : n ≤ 100000000) :
    Calls Try.prog 34 #[.int .i64 (n : Int)] w fun e w' => e = .returned (.string ⟨(mk n).toArray⟩) ∧ Below w.heap.size w w' := by
  go_enter Try.func34, Try.ntmps34
  go_wp2
  go_loopw [0, 3] (fun i v wr => ∃ (m f : Nat) (t : List UInt8), i = .int .i64 (m : Int) ∧ v = .string ⟨t.toArray⟩ ∧ m ≤ 100000000 ∧ t.length + f = 20 ∧ Below w.heap.size w wr ∧ Hid (m < 10 ^ f) ∧ Hid (Pl.dg f m ++ t = Pl.dg 20 n)) (fun i _ _ => (intOf i).toNat)
  case atStart => exact ⟨n, 20, [], rfl, rfl, hn, rfl, Below.refl _ _, (by show n < 10 ^ 20; omega), (by show _ = _; simp)⟩
  case round =>
    obtain ⟨m, f, t, rfl, rfl, hm, htf, hbel, H1, H2⟩ := hrel
    have hsz := hbel.size
    by_cases hm0 : m = 0
    · subst hm0
      have h3 : Hid (t = Pl.dg 20 n) := by have := H2.out; rw [Pl.dg_zero] at this; exact this
      have htl : t.length ≤ 20 := by omega
      go_wp2
      go_ret
      exact ⟨ret_str (by unfold mk; rw [← h3.out]; exact cat1 109 t), hbel⟩
    · obtain ⟨g, hg, hq, hv⟩ := dg_round n f m t H1.out H2.out hm0
      have HG : Hid (f = g + 1) := hg
      have HQ : Hid (m / 10 < 10 ^ g) := hq
      have HV : Hid (Pl.dg g (m / 10) ++ (Pl.ch (m % 10) :: t) = Pl.dg 20 n) := hv
      clear hg hq hv
      have hpos : 0 < m := by omega
      have hcv := conv1 wr (Pl.ch (m % 10))
      rw [show ((Pl.ch (m % 10)).toNat : Int) = 48 + (m : Int) % 10 by have := Pl.ch_nat (m % 10) (by omega); omega] at hcv
      go_wp2
      go_roundw
      case rel =>
        refine ⟨m / 10, g, Pl.ch (m % 10) :: t, by go_num, ?_, by omega, ?_, hbel.alloc hsz _, HQ.out, HV.out⟩
        · rw [← cat1]
          rfl
        · have := HG.out; simp; omega
      case measure => simp [intOf]; omega

set_option maxRecDepth 100000 in
theorem markText_int (z : Int) (n : Nat) (w : World) (hz : z = (n : Int)) (h0 : 0 < n) (hn : n ≤ 100000000) :
    Calls Try.prog 34 #[.int .i64 z] w fun e w' => e = .returned (.string ⟨(mk n).toArray⟩) ∧ Below w.heap.size w w' := by
  subst hz
  exact markText_any n w h0 hn

end PartMkT
section PartMfs
open Go.RowKit

/-- Nothing but blocks of S has changed. -/
def FS (S : Nat → Prop) (w w' : World) : Prop := Env w w' ∧ w.heap.size ≤ w'.heap.size ∧ ∀ k, k < w.heap.size → ¬ S k → w'.heap[k]? = w.heap[k]?
theorem FS.refl (S : Nat → Prop) (w : World) : FS S w w := ⟨Env.refl w, Nat.le_refl _, fun _ _ _ => rfl⟩
theorem FS.set {S : Nat → Prop} {w w' : World} (h : FS S w w') (r o : Nat) (u : Value) (h1 : S r) : FS S w (w'.setCell ⟨r, o, none⟩ u) :=
  ⟨h.1, by simpa [World.setCell] using h.2.1, fun k hk hkk => by rw [Below.heap_setCell _ _ _ _ (by show k ≠ r; exact fun e => hkk (e ▸ h1))]; exact h.2.2 k hk hkk⟩
theorem FS.up {S : Nat → Prop} {w w' w2 : World} (h : FS S w w') (hb : Below w'.heap.size w' w2) : FS S w w2 :=
  ⟨h.1.trans ⟨hb.os, hb.tape, hb.output⟩, Nat.le_trans h.2.1 hb.size, fun k hk hkk => (hb.block k (Nat.lt_of_lt_of_le hk h.2.1)).trans (h.2.2 k hk hkk)⟩
theorem FS.sub {S S' : Nat → Prop} {w w1 : World} (h : FS S w w1) (hs : ∀ k, S k → S' k) : FS S' w w1 := ⟨h.1, h.2.1, fun k hk hkk => h.2.2 k hk (fun e => hkk (hs k e))⟩
theorem hidOf3 {p : Prop} (h : p) : Hid p := h
theorem FS.trans {S : Nat → Prop} {w w1 w2 : World} (h : FS S w w1) (k : FS S w1 w2) : FS S w w2 :=
  ⟨h.1.trans k.1, Nat.le_trans h.2.1 k.2.1, fun q hq hs => (k.2.2 q (Nat.lt_of_lt_of_le hq h.2.1) hs).trans (h.2.2 q hq hs)⟩
theorem FS.ofBelow {S : Nat → Prop} {w w1 : World} (h : Below w.heap.size w w1) : FS S w w1 := ⟨⟨h.os, h.tape, h.output⟩, h.size, fun q hq _ => h.block q hq⟩
end PartMfs
end Go.Proofs.Ytbghghflepjdkaa
