/- At every draw: a set takes one of its bytes, a set with the other sign one of all others, and any takes any; what is read is right. -/
import Derived.Test.YtibmagmdeacenacFnU
import Derived.Test.YtibmagmdeacenacFnV
import Derived.Test.YtibmagmdeacenacDPp
namespace Go.Proofs.Ytibmagmdeacenac
open Go.RowKit

/-- Where a piece of one byte ends at a text of one byte: as many places as it takes the byte. -/
theorem one_len (pc : Pp.Pc) (c : UInt8) (h1 : 1 ≤ pc.op) (h4 : pc.op ≤ 4) : (el [pc] ⟨#[c]⟩ 0).length = if Pp.tk pc c = true then 1 else 0 := by
  by_cases h : Pp.tk pc c = true
  · rw [el_byte_in pc ⟨#[c]⟩ 0 h1 h4 (by show (0 : Nat) < 1; decide) h, if_pos h]; rfl
  · rw [el_byte_out pc ⟨#[c]⟩ 0 h1 h4 (Nat.zero_le _) (fun _ => by show Pp.tk pc c = false; simpa using h), if_neg h]; rfl
theorem one_any (t : ByteArray) (pc : Pp.Pc) (c : UInt8) (m : Nat) (w : World) (hp : Pp.read t.data.toList = some [pc]) (hr : Pp.right [pc] = true) (ht : t.size ≤ 1048576) (h1 : 1 ≤ pc.op) (h4 : pc.op ≤ 4) (hm : (if Pp.tk pc c = true then 1 else 0) = m) :
    Calls Try.prog 11 #[.string t, .string ⟨#[c]⟩, .int .i64 0] w fun e w' => ∃ ya yc, e = .returned (.slice ya m yc) ∧ Below w.heap.size w w' := by
  refine (ends_any t ⟨#[c]⟩ _ 0 w hp hr ht (by show (1 : Nat) ≤ 1048576; decide) (Nat.zero_le _)).mono ?_
  rintro e w' ⟨y, rfl, ⟨ya, yc, rfl, -⟩, b⟩
  rw [one_len pc c h1 h4, hm]
  exact ⟨ya, yc, rfl, b⟩
theorem none_any (w : World) :
    Calls Try.prog 11 #[.string ⟨#[46]⟩, .string ⟨#[]⟩, .int .i64 0] w fun e w' => ∃ ya yc, e = .returned (.slice ya 0 yc) ∧ Below w.heap.size w w' := by
  refine (ends_any ⟨#[46]⟩ ⟨#[]⟩ _ 0 w rd_any rt_all.2.2.1 (by decide) (by decide) (Nat.zero_le _)).mono ?_
  rintro e w' ⟨y, rfl, ⟨ya, yc, rfl, -⟩, b⟩
  rw [el_byte_out ⟨2, [], []⟩ ⟨#[]⟩ 0 (by decide) (by decide) (by decide) (fun h => absurd h (by decide))]
  exact ⟨ya, yc, rfl, b⟩
/-- What the two readers give of a drawn text. -/
theorem reads_any (t : List UInt8) (ht : t ∈ all04) : ∃ (ok : Bool) (p : List Pp.Pc), (ok = true → Pp.right p = true) ∧
    (∀ w, Calls Try.prog 8 #[.string ⟨t.toArray⟩] w fun e w' => ∃ va vn vc, e = .returned (.tuple #[.agg #[.slice va vn vc], .bool ok]) ∧ (ok = true → PcsAt w' (.slice va vn vc) (p.map tp) ∧ 0 < p.length ∧ p.length ≤ 60) ∧ Below w.heap.size w w') ∧
    ∀ w, Calls Try.prog 13 #[.string ⟨t.toArray⟩] w fun e w' => ∃ va vn vc, e = .returned (.tuple #[.agg #[.slice va vn vc], .bool ok]) ∧ Below w.heap.size w w' := by
  have hs : (⟨t.toArray⟩ : ByteArray).size ≤ 1048576 := by rw [lst_size]; have := all04_len t ht; omega
  have hr := okRead_all t ht
  unfold Pp.okRead at hr
  have hl : (⟨t.toArray⟩ : ByteArray).data.toList = t := by simp
  cases e : Pp.read t with
  | none =>
    refine ⟨false, [], (fun h => by cases h), fun w => ?_, fun w => ?_⟩
    · refine (implRead_any _ w hs).mono ?_
      rintro x w' ⟨b, k⟩
      rw [hl, e] at k
      obtain rfl : x = _ := k
      exact ⟨_, _, _, rfl, (fun h => by cases h), b⟩
    · refine (specRead_any _ w hs).mono ?_
      rintro x w' ⟨b, k⟩
      rw [hl, e] at k
      obtain rfl : x = _ := k
      exact ⟨_, _, _, rfl, b⟩
  | some p =>
    rw [e] at hr
    refine ⟨true, p, fun _ => hr, fun w => ?_, fun w => ?_⟩
    · refine (implRead_any _ w hs).mono ?_
      rintro x w' ⟨b, k⟩
      rw [hl, e] at k
      obtain ⟨v, rfl, k1, k2, k3⟩ := k
      have q := k1.pcs k2
      obtain ⟨va, vc, rfl, -⟩ := id q
      exact ⟨va, _, vc, rfl, fun _ => ⟨q, k2, k3⟩, b⟩
    · refine (specRead_any _ w hs).mono ?_
      rintro x w' ⟨b, k⟩
      rw [hl, e] at k
      obtain ⟨v, rfl, k1, k2, k3⟩ := k
      obtain ⟨va, vc, rfl, -⟩ := k1.pcs k2
      exact ⟨va, _, vc, rfl, b⟩

theorem keepQ {N a b g : Nat} {W w w' : World} {x y z : Value} (hb : Below w.heap.size w w') (hN : N ≤ W.heap.size) (h : w.cell? ⟨a, 0, none⟩ = some x ∧ w.cell? ⟨b, 0, none⟩ = some y ∧ w.cell? ⟨g, 0, none⟩ = some z ∧ Hid (Below N W w)) :
    w'.cell? ⟨a, 0, none⟩ = some x ∧ w'.cell? ⟨b, 0, none⟩ = some y ∧ w'.cell? ⟨g, 0, none⟩ = some z ∧ Hid (Below N W w') :=
  ⟨(hb.cell (World.block_lt_of_cell? w _ h.1)).trans h.1, (hb.cell (World.block_lt_of_cell? w _ h.2.1)).trans h.2.1, (hb.cell (World.block_lt_of_cell? w _ h.2.2.1)).trans h.2.2.1, h.2.2.2.out.trans (hb.mono (Nat.le_trans hN h.2.2.2.out.size))⟩

/-- OfTwo rows, each with its number (its answer): what the sentence's calls are handed. -/
def OfTwo {α β : Type} (a : α) (x : β) (b : α) (y : β) (c : α) (z : β) : Prop := (c = a ∧ z = x) ∨ (c = b ∧ z = y)
theorem OfTwo.one {α β : Type} (a : α) (x : β) (b : α) (y : β) : OfTwo a x b y a x := .inl ⟨rfl, rfl⟩
theorem OfTwo.two {α β : Type} (a : α) (x : β) (b : α) (y : β) : OfTwo a x b y b y := .inr ⟨rfl, rfl⟩

set_option maxHeartbeats 8000000 in
set_option maxRecDepth 100000 in
theorem lawSets (ad : Option Addr) (n cap : Nat) (w : World) (hc : n ≤ 1048576 → Code w ad n) :
    Calls Try.prog 4 #[.slice ad n cap] w fun e w' => e = .returned (.bool true) ∧ Below w.heap.size w w' := by
  by_cases hbig : 1048576 < n
  · have CB : Hid _ := big_yes ad n cap hbig
    clear hc
    go_enter Try.func4, Try.ntmps4
    go_wp2_with fail
    refine Calls.mono (CB.out _) ?_
    rintro e w' ⟨rfl, rfl⟩
    go_wp2
    go_ret
    exact ⟨rfl, Below.refl _ _⟩
  have CB : Hid (∀ w, Calls Try.prog 5 #[.slice ad n cap] w fun e w' => e = .returned (.bool false) ∧ w' = w) := big_no ad n cap hbig
  have HC : Hid (Code w ad n) := hc (by omega)
  have hn : n ≤ 1048576 := by omega
  clear hc hbig
  go_enter Try.func4, Try.ntmps4
  go_wp2_with fail
  refine (CB.out _).mono ?_
  rintro e w0 ⟨rfl, rfl⟩
  go_wp2_with fail
  refine (drawPlaces_any ad n cap w0 hn HC.out).mono ?_
  rintro e w1 ⟨g, c, zs, -, hlt, rfl, -, hgl, hcell, b1⟩
  have B1 : Hid (Below w0.heap.size w0 w1) := b1
  have hc0 := hcell 0 (by omega)
  have hp0 := hlt 0
  generalize zs.getD 0 0 = p0 at *
  obtain ⟨k, hk⟩ : ∃ k, k = p0 % 6 := ⟨_, rfl⟩
  have hk6 : k < 6 := by omega
  have hmod : (p0 : Int) % 6 = (k : Int) := by rw [hk]; simp
  obtain ⟨cb, hcb⟩ : ∃ cb : UInt8, cb = UInt8.ofNat (97 + k) := ⟨_, rfl⟩
  have hcn : (cb.toNat : Int) = 97 + (k : Int) := by
    rw [hcb, UInt8.toNat_ofNat']
    omega
  have cv : (convert 22 9 (.slice (some ⟨w1.heap.size, 0, none⟩) 1 1)).run Try.prog (w1.alloc (.cells #[.int .u8 (97 + (k : Int))] 5)) = .ok (.string ⟨#[cb]⟩) (w1.alloc (.cells #[.int .u8 (97 + (k : Int))] 5)) := by
    rw [← hcn]
    exact conv_one cb w1
  have hT := tk_six k hk6
  rw [← hcb] at hT
  obtain ⟨X, hX⟩ : ∃ X : Nat, X = if k < 3 then 1 else 0 := ⟨_, rfl⟩
  obtain ⟨Y, hY⟩ : ∃ Y : Nat, Y = if k < 3 then 0 else 1 := ⟨_, rfl⟩
  have CX : Hid (∀ w, Calls Try.prog 11 #[.string ⟨#[91, 97, 98, 99, 93]⟩, .string ⟨#[cb]⟩, .int .i64 0] w fun e w' => ∃ ya yc, e = .returned (.slice ya X yc) ∧ Below w.heap.size w w') := fun w =>
    one_any _ ⟨3, [97, 98, 99], []⟩ cb X w rd_set rt_all.1 (by decide) (by decide) (by decide) (by rw [hT.1, hX]; simp)
  have CY : Hid (∀ w, Calls Try.prog 11 #[.string ⟨#[91, 94, 97, 98, 99, 93]⟩, .string ⟨#[cb]⟩, .int .i64 0] w fun e w' => ∃ ya yc, e = .returned (.slice ya Y yc) ∧ Below w.heap.size w w') := fun w =>
    one_any _ ⟨4, [97, 98, 99], []⟩ cb Y w rd_not rt_all.2.1 (by decide) (by decide) (by decide) (by rw [hT.2, hY]; by_cases h : k < 3 <;> simp [h])
  have CA : Hid (∀ w, Calls Try.prog 11 #[.string ⟨#[46]⟩, .string ⟨#[cb]⟩, .int .i64 0] w fun e w' => ∃ ya yc, e = .returned (.slice ya 1 yc) ∧ Below w.heap.size w w') := fun w =>
    one_any _ ⟨2, [], []⟩ cb 1 w rd_any rt_all.2.2.1 (by decide) (by decide) (by decide) rfl
  have HC1 : Hid (Code w1 ad n) := HC.out.keep b1
  have HXY : Hid (X = (if k < 3 then 1 else 0) ∧ Y = if k < 3 then 0 else 1) := ⟨hX, hY⟩
  clear hlt hcell b1 CB hT hX hY hcn HC hcb hk
  go_wp2_with fail
  clear cv
  have hbA : Below w1.heap.size w1 (w1.alloc (.cells #[.int .u8 (97 + (k : Int))] 5)) := (Below.refl _ _).alloc (Nat.le_refl _) _
  have B2 : Hid (Below w0.heap.size w0 (w1.alloc (.cells #[.int .u8 (97 + (k : Int))] 5))) := B1.out.trans (hbA.mono B1.out.size)
  have HC2 : Hid (Code (w1.alloc (.cells #[.int .u8 (97 + (k : Int))] 5)) ad n) := HC1.out.keep hbA
  have hc2 := (hbA.cell (p := ⟨g, 0, none⟩) hgl).trans hc0
  have hg2 : g < (w1.alloc (.cells #[.int .u8 (97 + (k : Int))] 5)).heap.size := Nat.lt_of_lt_of_le hgl hbA.size
  generalize w1.alloc (.cells #[.int .u8 (97 + (k : Int))] 5) = w2 at *
  clear hbA hc0 hgl B1 HC1
  refine (CX.out _).mono ?_
  rintro e w3 ⟨ya, yc, rfl, b3⟩
  have B3 : Hid (Below w0.heap.size w0 w3) := B2.out.trans (b3.mono B2.out.size)
  have HC3 : Hid (Code w3 ad n) := HC2.out.keep b3
  have hc3 := (b3.cell (p := ⟨g, 0, none⟩) hg2).trans hc2
  have hg3 : g < w3.heap.size := Nat.lt_of_lt_of_le hg2 b3.size
  clear b3 hc2 hg2 B2 HC2 CX
  go_wp2_with fail
  refine (CY.out _).mono ?_
  rintro e w4 ⟨za, zc, rfl, b4⟩
  have B4 : Hid (Below w0.heap.size w0 w4) := B3.out.trans (b4.mono B3.out.size)
  have HC4 : Hid (Code w4 ad n) := HC3.out.keep b4
  have hc4 := (b4.cell (p := ⟨g, 0, none⟩) hg3).trans hc3
  have hg4 : g < w4.heap.size := Nat.lt_of_lt_of_le hg3 b4.size
  clear b4 hc3 hg3 B3 HC3 CY
  go_wp2_with fail
  refine (drawRead_any ad n cap w4 hn HC4.out).mono ?_
  rintro e w5 ⟨t, ht, rfl, b5⟩
  obtain ⟨ok, p, hrt, hri, hrs⟩ := reads_any t ht
  have HRT : Hid (ok = true → Pp.right p = true) := hrt
  generalize (⟨t.toArray⟩ : ByteArray) = T at *
  have HRI : Hid (∀ w, Calls Try.prog 8 #[.string T] w fun e w' => ∃ va vn vc, e = .returned (.tuple #[.agg #[.slice va vn vc], .bool ok]) ∧ (ok = true → PcsAt w' (.slice va vn vc) (p.map tp) ∧ 0 < p.length ∧ p.length ≤ 60) ∧ Below w.heap.size w w') := hri
  have HRS : Hid (∀ w, Calls Try.prog 13 #[.string T] w fun e w' => ∃ va vn vc, e = .returned (.tuple #[.agg #[.slice va vn vc], .bool ok]) ∧ Below w.heap.size w w') := hrs
  have B5 : Hid (Below w0.heap.size w0 w5) := B4.out.trans (b5.mono B4.out.size)
  have HC5 : Hid (Code w5 ad n) := HC4.out.keep b5
  have hc5 := (b5.cell (p := ⟨g, 0, none⟩) hg4).trans hc4
  have hg5 : g < w5.heap.size := Nat.lt_of_lt_of_le hg4 b5.size
  clear b5 hc4 hg4 B4 HC4 ht hrt hri hrs
  go_wp2_with fail
  refine (HRI.out _).mono ?_
  rintro e w6 ⟨va, vn, vc, rfl, hv, b6⟩
  obtain ⟨o6, ho6⟩ : ∃ o, o = w6.heap.size := ⟨_, rfl⟩
  have bA : Below w6.heap.size w6 (w6.alloc (.cells #[.slice va vn vc] 30)) := (Below.refl _ _).alloc (Nat.le_refl _) _
  have B6 : Hid (Below w0.heap.size w0 (w6.alloc (.cells #[.slice va vn vc] 30))) := (B5.out.trans (b6.mono B5.out.size)).trans (bA.mono (B5.out.trans (b6.mono B5.out.size)).size)
  have HC6 : Hid (Code (w6.alloc (.cells #[.slice va vn vc] 30)) ad n) := (HC5.out.keep b6).keep bA
  have hc6 := (bA.cell (p := ⟨g, 0, none⟩) (Nat.lt_of_lt_of_le hg5 b6.size)).trans ((b6.cell (p := ⟨g, 0, none⟩) hg5).trans hc5)
  have hg6 : g < (w6.alloc (.cells #[.slice va vn vc] 30)).heap.size := Nat.lt_of_lt_of_le (Nat.lt_of_lt_of_le hg5 b6.size) bA.size
  have HV6 : Hid (ok = true → PcsAt (w6.alloc (.cells #[.slice va vn vc] 30)) (.slice va vn vc) (p.map tp) ∧ 0 < p.length ∧ p.length ≤ 60) := fun h => ⟨(hv h).1.keep bA, (hv h).2⟩
  have hq6 : (w6.alloc (.cells #[.slice va vn vc] 30)).cell? ⟨o6, 0, none⟩ = some (.slice va vn vc) := by rw [ho6]; simp
  have hl6 : o6 < (w6.alloc (.cells #[.slice va vn vc] 30)).heap.size := by rw [ho6]; simp
  clear b6 hc5 hg5 B5 HC5 hv bA HRI
  go_wp2_with fail
  rw [← ho6]
  generalize w6.alloc (.cells #[.slice va vn vc] 30) = w7 at *
  clear ho6
  refine (HRS.out _).mono ?_
  rintro e w8 ⟨ua, un, uc, rfl, b8⟩
  have B8 : Hid (Below w0.heap.size w0 w8) := B6.out.trans (b8.mono B6.out.size)
  have HC8 : Hid (Code w8 ad n) := HC6.out.keep b8
  have hc8 := (b8.cell (p := ⟨g, 0, none⟩) hg6).trans hc6
  have hg8 : g < w8.heap.size := Nat.lt_of_lt_of_le hg6 b8.size
  have HV8 : Hid (ok = true → PcsAt w8 (.slice va vn vc) (p.map tp) ∧ 0 < p.length ∧ p.length ≤ 60) := fun h => ⟨(HV6.out h).1.keep b8, (HV6.out h).2⟩
  have hq8 := (b8.cell (p := ⟨o6, 0, none⟩) hl6).trans hq6
  have hl8 : o6 < w8.heap.size := Nat.lt_of_lt_of_le hl6 b8.size
  clear b8 hc6 hg6 B6 HC6 HV6 hq6 hl6 HRS
  have bA : Below w8.heap.size w8 (w8.alloc (.cells #[.slice ua un uc] 30)) := (Below.refl _ _).alloc (Nat.le_refl _) _
  have B9 : Hid (Below w0.heap.size w0 (w8.alloc (.cells #[.slice ua un uc] 30))) := B8.out.trans (bA.mono B8.out.size)
  have HC9 : Hid (Code (w8.alloc (.cells #[.slice ua un uc] 30)) ad n) := HC8.out.keep bA
  have hc9 := (bA.cell (p := ⟨g, 0, none⟩) hg8).trans hc8
  have hg9 : g < (w8.alloc (.cells #[.slice ua un uc] 30)).heap.size := Nat.lt_of_lt_of_le hg8 bA.size
  have HV9 : Hid (ok = true → PcsAt (w8.alloc (.cells #[.slice ua un uc] 30)) (.slice va vn vc) (p.map tp) ∧ 0 < p.length ∧ p.length ≤ 60) := fun h => ⟨(HV8.out h).1.keep bA, (HV8.out h).2⟩
  have hq9 := (bA.cell (p := ⟨o6, 0, none⟩) hl8).trans hq8
  have hl9 : o6 < (w8.alloc (.cells #[.slice ua un uc] 30)).heap.size := Nat.lt_of_lt_of_le hl8 bA.size
  clear bA hc8 hg8 B8 HC8 HV8 hq8 hl8
  go_wp2_with fail
  generalize w8.heap.size = o7 at *
  generalize w8.alloc (.cells #[.slice ua un uc] 30) = w9 at *
  refine (drawPok_any ad n cap w9 hn HC9.out).mono ?_
  rintro e w10 ⟨z, ps, rfl, hz, h60, hsm, b10⟩
  obtain ⟨za, zn, zc, rfl⟩ : ∃ za zn zc, z = .slice za zn zc := by
    obtain ⟨za, zc, rfl, -⟩ := id hz
    exact ⟨za, _, zc, rfl⟩
  have bA : Below w10.heap.size w10 (w10.alloc (.cells #[.slice za zn zc] 30)) := (Below.refl _ _).alloc (Nat.le_refl _) _
  have bB : Below w9.heap.size w9 (w10.alloc (.cells #[.slice za zn zc] 30)) := b10.trans (bA.mono b10.size)
  have HFIN : Hid (∀ w', Below (w10.alloc (.cells #[.slice za zn zc] 30)).heap.size (w10.alloc (.cells #[.slice za zn zc] 30)) w' → Below w0.heap.size w0 w') := fun w' h => (B9.out.trans (bB.mono B9.out.size)).trans (h.mono (B9.out.trans (bB.mono B9.out.size)).size)
  have hcW := (bB.cell (p := ⟨g, 0, none⟩) hg9).trans hc9
  have hqW := (bB.cell (p := ⟨o6, 0, none⟩) hl9).trans hq9
  obtain ⟨o8, ho8⟩ : ∃ o, o = w10.heap.size := ⟨_, rfl⟩
  have hzW : (w10.alloc (.cells #[.slice za zn zc] 30)).cell? ⟨o8, 0, none⟩ = some (.slice za zn zc) := by rw [ho8]; simp
  have HVW : Hid (ok = true → PcsAt (w10.alloc (.cells #[.slice za zn zc] 30)) (.slice va vn vc) (p.map tp) ∧ 0 < p.length ∧ p.length ≤ 60) := fun h => ⟨(HV9.out h).1.keep bB, (HV9.out h).2⟩
  have HZW : Hid (PcsAt (w10.alloc (.cells #[.slice za zn zc] 30)) (.slice za zn zc) ps ∧ ps.length ≤ 60 ∧ Small ps ps.length) := ⟨hz.keep bA, h60, hsm⟩
  clear bA bB hc9 hg9 B9 HC9 HV9 hq9 hl9 hz h60 hsm b10
  go_wp2_with fail
  rw [← ho8]
  generalize w10.alloc (.cells #[.slice za zn zc] 30) = W at *
  clear ho8
  obtain ⟨r, hr⟩ : ∃ r, r = Pk.pat ps := ⟨_, rfl⟩
  have CE : Hid (∀ (w' : World) (u : ByteArray) (m : Nat), OfTwo ⟨#[cb]⟩ 1 ⟨#[]⟩ 0 u m → Calls Try.prog 11 #[.string ⟨#[46]⟩, .string u, .int .i64 0] w' fun e w'' => ∃ ya yc, e = .returned (.slice ya m yc) ∧ Below w'.heap.size w' w'') := by
    rintro w' u m (⟨rfl, rfl⟩ | ⟨rfl, rfl⟩)
    · exact CA.out w'
    · exact none_any w'
  have CQ : Hid (ok = true → ∀ (w' : World) (v : Value) (b : Bool), OfTwo (.slice va vn vc) true (.slice za zn zc) r v b → (w'.cell? ⟨o6, 0, none⟩ = some (.slice va vn vc) ∧ w'.cell? ⟨o8, 0, none⟩ = some (.slice za zn zc) ∧ w'.cell? ⟨g, 0, none⟩ = some (.int .i64 (p0 : Int)) ∧ Hid (Below W.heap.size W w')) → Calls Try.prog 15 #[.agg #[v]] w' fun e w'' => e = .returned (.bool b) ∧ Below w'.heap.size w' w'') := by
    rintro hok w' v b (⟨rfl, rfl⟩ | ⟨rfl, rfl⟩) h
    · obtain ⟨k1, k2, k3⟩ := HVW.out hok
      exact okC _ p w' (k1.keep h.2.2.2.out) (HRT.out hok) k2 k3
    · obtain ⟨k1, k2, k3⟩ := HZW.out
      rw [hr]
      exact implOk_any _ ps w' (k1.keep h.2.2.2.out) (by omega) k3
  have CZ : Hid (∀ (w' : World), (w'.cell? ⟨o6, 0, none⟩ = some (.slice va vn vc) ∧ w'.cell? ⟨o8, 0, none⟩ = some (.slice za zn zc) ∧ w'.cell? ⟨g, 0, none⟩ = some (.int .i64 (p0 : Int)) ∧ Hid (Below W.heap.size W w')) → Calls Try.prog 15 #[.agg #[.slice za zn zc]] w' fun e w'' => e = .returned (.bool r) ∧ Below w'.heap.size w' w'') := by
    intro w' h
    obtain ⟨k1, k2, k3⟩ := HZW.out
    rw [hr]
    exact implOk_any _ ps w' (k1.keep h.2.2.2.out) (by omega) k3
  have CS : Hid (∀ (w' : World), (w'.cell? ⟨o6, 0, none⟩ = some (.slice va vn vc) ∧ w'.cell? ⟨o8, 0, none⟩ = some (.slice za zn zc) ∧ w'.cell? ⟨g, 0, none⟩ = some (.int .i64 (p0 : Int)) ∧ Hid (Below W.heap.size W w')) → Calls Try.prog 16 #[.agg #[.slice za zn zc]] w' fun e w'' => e = .returned (.bool r) ∧ Below w'.heap.size w' w'') := by
    intro w' h
    obtain ⟨k1, k2, k3⟩ := HZW.out
    rw [hr]
    exact specOk_any _ ps w' (k1.keep h.2.2.2.out) (by omega) k3
  have tm : Int.tmod (p0 : Int) 6 = (k : Int) := by rw [Int.tmod_eq_emod_of_nonneg (by omega)]; exact hmod
  have wr1 : IntKind.i64.wrap 1 = 1 := by decide
  have key : (X = 1 ∧ Y = 0 ∧ decide ((k : Int) < 3) = true) ∨ (X = 0 ∧ Y = 1 ∧ decide ((k : Int) < 3) = false) := by
    obtain ⟨hX, hY⟩ := HXY.out
    by_cases h : k < 3
    · exact .inl ⟨by rw [hX, if_pos h], by rw [hY, if_pos h], decide_eq_true (by omega)⟩
    · exact .inr ⟨by rw [hX, if_neg h], by rw [hY, if_neg h], decide_eq_false (by omega)⟩
  clear HRT HVW HZW hr HXY CA
  cases ok with
  | true =>
    have CQ2 := CQ.out rfl
    have CQ3 : Hid _ := CQ2
    clear CQ CZ CQ2
    rcases key with ⟨rfl, rfl, dpk⟩ | ⟨rfl, rfl, dpk⟩
    all_goals
      go_region_held3 (fun w' => w'.cell? ⟨o6, 0, none⟩ = some (.slice va vn vc) ∧ w'.cell? ⟨o8, 0, none⟩ = some (.slice za zn zc) ∧ w'.cell? ⟨g, 0, none⟩ = some (.int .i64 (p0 : Int)) ∧ Hid (Below W.heap.size W w')) (first | exact keepQ hb1 (Nat.le_refl _) (by assumption) | exact ⟨hqW, hzW, hcW, (Below.refl _ _).drew⟩ | assumption) (first | (go_at_call 11; refine (CE.out _ _ _ (by first | exact OfTwo.one _ _ _ _ | exact OfTwo.two _ _ _ _)).mono ?_; rintro e w1 ⟨ya, yc, rfl, hb1⟩) | (go_at_call 15; refine Calls.mono (CQ3.out _ _ _ (by first | exact OfTwo.one _ _ _ _ | exact OfTwo.two _ _ _ _) (by assumption)) ?_; rintro e w1 ⟨rfl, hb1⟩) | (go_at_call 16; refine (CS.out _ (by assumption)).mono ?_; rintro e w1 ⟨rfl, hb1⟩))
      all_goals (go_wp2; go_ret; rename_i hS; exact ⟨rfl, HFIN.out _ hS.2.2.2.out⟩)
  | false =>
    clear CQ
    rcases key with ⟨rfl, rfl, dpk⟩ | ⟨rfl, rfl, dpk⟩
    all_goals
      refine wp_region_noPanic ?_
      refine wp_region_held_drew (S := (fun w' => w'.cell? ⟨o6, 0, none⟩ = some (.slice va vn vc) ∧ w'.cell? ⟨o8, 0, none⟩ = some (.slice za zn zc) ∧ w'.cell? ⟨g, 0, none⟩ = some (.int .i64 (p0 : Int)) ∧ Hid (Below W.heap.size W w'))) (by kernel_rfl) ⟨hqW, hzW, hcW, (Below.refl _ _).drew⟩ (fun hH0 => ?_)
      refine wpAnyH_take (i := 0) (oi := { dst := some 45, op := Op.move (Operand.tmp 5), type := 3, pos := "laws.go:360", after := #[], guard := none }) (v := ?_) rfl (by kernel_rfl) (by kernel_rfl) (by kernel_rfl) (fun _ _ _ h => h) (Or.inl ⟨by rfl, ?_⟩) (by assumption) ?_
      rotate_left
      · (intro u hSw; (try dsimp only at hSw); go_simp; try with_reducible rfl)
      try simp only [Act.put, List.setIfInBounds_toArray, List.set_cons_zero, List.set_cons_succ]
      refine wpAnyH_take (i := 1) (oi := { dst := some 46, op := Op.move (Operand.tmp 6), type := 3, pos := "laws.go:360", after := #[], guard := none }) (v := ?_) rfl (by kernel_rfl) (by kernel_rfl) (by kernel_rfl) (fun _ _ _ h => h) (Or.inl ⟨by rfl, ?_⟩) (by assumption) ?_
      rotate_left
      · (intro u hSw; (try dsimp only at hSw); go_simp; try with_reducible rfl)
      try simp only [Act.put, List.setIfInBounds_toArray, List.set_cons_zero, List.set_cons_succ]
      refine wpAnyH_take (i := 2) (oi := { dst := some 47, op := Op.binOp BinOp.add 3 (Operand.tmp 45) (Operand.tmp 46) 3, type := 3, pos := "laws.go:360", after := #[{ on := 0, ground := Ground.data }, { on := 1, ground := Ground.data }], guard := none }) (v := ?_) rfl (by kernel_rfl) (by kernel_rfl) (by kernel_rfl) (fun _ _ _ h => h) (Or.inl ⟨by rfl, ?_⟩) (by assumption) ?_
      rotate_left
      · (intro u hSw; (try dsimp only at hSw); go_simp; try with_reducible rfl)
      try simp only [Act.put, List.setIfInBounds_toArray, List.set_cons_zero, List.set_cons_succ]
      refine wpAnyH_take (i := 3) (oi := { dst := some 48, op := Op.binOp BinOp.eql 3 (Operand.tmp 47) (Operand.const (Value.int IntKind.i64 1)) 3, type := 4, pos := "laws.go:360", after := #[{ on := 2, ground := Ground.data }], guard := none }) (v := ?_) rfl (by kernel_rfl) (by kernel_rfl) (by kernel_rfl) (fun _ _ _ h => h) (Or.inl ⟨by rfl, ?_⟩) (by assumption) ?_
      rotate_left
      · (intro u hSw; (try dsimp only at hSw); go_simp; try with_reducible rfl)
      try simp only [Act.put, List.setIfInBounds_toArray, List.set_cons_zero, List.set_cons_succ]
      refine wpAnyH_take (i := 4) (oi := { dst := some 49, op := Op.move (Operand.tmp 48), type := 4, pos := "laws.go:360", after := #[{ on := 3, ground := Ground.data }], guard := none }) (v := ?_) rfl (by kernel_rfl) (by kernel_rfl) (by kernel_rfl) (fun _ _ _ h => h) (Or.inl ⟨by rfl, ?_⟩) (by assumption) ?_
      rotate_left
      · (intro u hSw; (try dsimp only at hSw); go_simp; try with_reducible rfl)
      try simp only [Act.put, List.setIfInBounds_toArray, List.set_cons_zero, List.set_cons_succ]
      refine wpAnyH_take (i := 5) (oi := { dst := some 50, op := Op.move (Operand.tmp 5), type := 3, pos := "laws.go:360", after := #[{ on := 4, ground := Ground.guard }], guard := some (4, true) }) (v := ?_) rfl (by kernel_rfl) (by kernel_rfl) (by kernel_rfl) (fun _ _ _ h => h) (Or.inl ⟨by rfl, ?_⟩) (by assumption) ?_
      rotate_left
      · (intro u hSw; (try dsimp only at hSw); go_simp; try with_reducible rfl)
      try simp only [Act.put, List.setIfInBounds_toArray, List.set_cons_zero, List.set_cons_succ]
      refine wpAnyH_take (i := 6) (oi := { dst := some 51, op := Op.binOp BinOp.eql 3 (Operand.tmp 50) (Operand.const (Value.int IntKind.i64 1)) 3, type := 4, pos := "laws.go:360", after := #[{ on := 5, ground := Ground.data }, { on := 4, ground := Ground.guard }], guard := some (4, true) }) (v := ?_) rfl (by kernel_rfl) (by kernel_rfl) (by kernel_rfl) (fun _ _ _ h => h) (Or.inl ⟨by rfl, ?_⟩) (by assumption) ?_
      rotate_left
      · (intro u hSw; (try dsimp only at hSw); go_simp; try with_reducible rfl)
      try simp only [Act.put, List.setIfInBounds_toArray, List.set_cons_zero, List.set_cons_succ]
      refine wpAnyH_take (i := 7) (oi := { dst := some 52, op := Op.move (Operand.tmp 3), type := 24, pos := "laws.go:360", after := #[{ on := 4, ground := Ground.guard }], guard := some (4, true) }) (v := ?_) rfl (by kernel_rfl) (by kernel_rfl) (by kernel_rfl) (fun _ _ _ h => h) (Or.inl ⟨by rfl, ?_⟩) (by assumption) ?_
      rotate_left
      · (intro u hSw; (try dsimp only at hSw); go_simp; try with_reducible rfl)
      try simp only [Act.put, List.setIfInBounds_toArray, List.set_cons_zero, List.set_cons_succ]
      refine wpAnyH_take (i := 8) (oi := { dst := some 53, op := Op.indexAddr 24 (Operand.tmp 52) (Operand.const (Value.int IntKind.i64 0)), type := 0, pos := "laws.go:360", after := #[{ on := 7, ground := Ground.data }, { on := 4, ground := Ground.guard }], guard := some (4, true) }) (v := ?_) rfl (by kernel_rfl) (by kernel_rfl) (by kernel_rfl) (fun _ _ _ h => h) (Or.inl ⟨by rfl, ?_⟩) (by assumption) ?_
      rotate_left
      · (intro u hSw; (try dsimp only at hSw); go_simp; try with_reducible rfl)
      try simp only [Act.put, List.setIfInBounds_toArray, List.set_cons_zero, List.set_cons_succ]
      refine wpAnyH_take (i := 9) (oi := { dst := some 54, op := Op.load 3 (Operand.tmp 53), type := 3, pos := "laws.go:360", after := #[{ on := 8, ground := Ground.data }, { on := 4, ground := Ground.guard }], guard := some (4, true) }) (v := ?_) rfl (by kernel_rfl) (by kernel_rfl) (by kernel_rfl) (fun _ _ _ h => h) (Or.inl ⟨by rfl, ?_⟩) (by assumption) ?_
      rotate_left
      · (intro u hSw; (try dsimp only at hSw); go_simp; try with_reducible rfl)
      try simp only [Act.put, List.setIfInBounds_toArray, List.set_cons_zero, List.set_cons_succ]
      refine wpAnyH_take (i := 10) (oi := { dst := some 55, op := Op.binOp BinOp.rem 3 (Operand.tmp 54) (Operand.const (Value.int IntKind.i64 6)) 3, type := 3, pos := "laws.go:360", after := #[{ on := 9, ground := Ground.data }, { on := 4, ground := Ground.guard }], guard := some (4, true) }) (v := ?_) rfl (by kernel_rfl) (by kernel_rfl) (by kernel_rfl) (fun _ _ _ h => h) (Or.inl ⟨by rfl, ?_⟩) (by assumption) ?_
      rotate_left
      · (intro u hSw; (try dsimp only at hSw); go_simp; try with_reducible rfl)
      try simp only [Act.put, List.setIfInBounds_toArray, List.set_cons_zero, List.set_cons_succ]
      refine wpAnyH_take (i := 11) (oi := { dst := some 56, op := Op.binOp BinOp.lss 3 (Operand.tmp 55) (Operand.const (Value.int IntKind.i64 3)) 3, type := 4, pos := "laws.go:360", after := #[{ on := 10, ground := Ground.data }, { on := 4, ground := Ground.guard }], guard := some (4, true) }) (v := ?_) rfl (by kernel_rfl) (by kernel_rfl) (by kernel_rfl) (fun _ _ _ h => h) (Or.inl ⟨by rfl, ?_⟩) (by assumption) ?_
      rotate_left
      · (intro u hSw; (try dsimp only at hSw); go_simp; try with_reducible rfl)
      try simp only [Act.put, List.setIfInBounds_toArray, List.set_cons_zero, List.set_cons_succ]
      refine wpAnyH_take (i := 12) (oi := { dst := some 57, op := Op.binOp BinOp.eql 4 (Operand.tmp 51) (Operand.tmp 56) 4, type := 4, pos := "laws.go:360", after := #[{ on := 6, ground := Ground.data }, { on := 11, ground := Ground.data }, { on := 4, ground := Ground.guard }], guard := some (4, true) }) (v := ?_) rfl (by kernel_rfl) (by kernel_rfl) (by kernel_rfl) (fun _ _ _ h => h) (Or.inl ⟨by rfl, ?_⟩) (by assumption) ?_
      rotate_left
      · (intro u hSw; (try dsimp only at hSw); go_simp; try with_reducible rfl)
      try simp only [Act.put, List.setIfInBounds_toArray, List.set_cons_zero, List.set_cons_succ]
      refine wpAnyH_take (i := 13) (oi := { dst := some 58, op := Op.pick (Operand.tmp 49) (Operand.tmp 57) (Operand.const (Value.bool false)), type := 4, pos := "laws.go:360", after := #[{ on := 4, ground := Ground.data }, { on := 12, ground := Ground.data }], guard := none }) (v := ?_) rfl (by kernel_rfl) (by kernel_rfl) (by kernel_rfl) (fun _ _ _ h => h) (Or.inl ⟨by rfl, ?_⟩) (by assumption) ?_
      rotate_left
      · (intro u hSw; (try dsimp only at hSw); go_simp; try with_reducible rfl)
      try simp only [Act.put, List.setIfInBounds_toArray, List.set_cons_zero, List.set_cons_succ]
      refine wpAnyH_take (i := 14) (oi := { dst := some 59, op := Op.move (Operand.tmp 58), type := 4, pos := "laws.go:360", after := #[{ on := 13, ground := Ground.data }, { on := 4, ground := Ground.chain }], guard := none }) (v := ?_) rfl (by kernel_rfl) (by kernel_rfl) (by kernel_rfl) (fun _ _ _ h => h) (Or.inl ⟨by rfl, ?_⟩) (by assumption) ?_
      rotate_left
      · (intro u hSw; (try dsimp only at hSw); go_simp; try with_reducible rfl)
      try simp only [Act.put, List.setIfInBounds_toArray, List.set_cons_zero, List.set_cons_succ]
      refine wpAnyH_take (i := 15) (oi := { dst := some 60, op := Op.move (Operand.tmp 4), type := 9, pos := "laws.go:360", after := #[{ on := 14, ground := Ground.guard }], guard := some (14, true) }) (v := ?_) rfl (by kernel_rfl) (by kernel_rfl) (by kernel_rfl) (fun _ _ _ h => h) (Or.inl ⟨by rfl, ?_⟩) (by assumption) ?_
      rotate_left
      · (intro u hSw; (try dsimp only at hSw); go_simp; try with_reducible rfl)
      try simp only [Act.put, List.setIfInBounds_toArray, List.set_cons_zero, List.set_cons_succ]
      refine wpAnyH_ready (rs := [16]) (by kernel_rfl) (by simp) ?_
      refine AllReadyH.cons (o := { dst := some 61, op := Op.call { callee := Callee.value (Operand.func 11), args := #[Operand.const (Value.string { data := #[46] }), Operand.tmp 60, Operand.const (Value.int IntKind.i64 0)], argTypes := #[9, 9, 3] }, type := 24, pos := "laws.go:360", after := #[{ on := 15, ground := Ground.data }, { on := 14, ground := Ground.chain }, { on := 14, ground := Ground.guard }], guard := some (14, true) }) rfl (fun K hK => ?_) AllReadyH.nil
      go_simp
      go_at_call 11
      refine (CE.out _ _ _ (OfTwo.one _ _ _ _)).mono ?_
      rintro e w11 ⟨ea, ec, rfl, hb1⟩
      dsimp only
      refine hK.out _ _ (keepQ hb1 (Nat.le_refl _) hH0) (fun hH1 => ?_)
      clear hK K hb1 hH0
      try simp only [Act.put, List.setIfInBounds_toArray, List.set_cons_zero, List.set_cons_succ]
      refine wpAnyH_take (i := 17) (oi := { dst := some 62, op := Op.call { callee := Callee.builtin Builtin.len, args := #[Operand.tmp 61], argTypes := #[24] }, type := 3, pos := "laws.go:360", after := #[{ on := 16, ground := Ground.data }, { on := 14, ground := Ground.guard }], guard := some (14, true) }) (v := ?_) rfl (by kernel_rfl) (by kernel_rfl) (by kernel_rfl) (fun _ _ _ h => h) (Or.inl ⟨by rfl, ?_⟩) (by assumption) ?_
      rotate_left
      · (intro u hSw; (try dsimp only at hSw); go_simp; try with_reducible rfl)
      try simp only [Act.put, List.setIfInBounds_toArray, List.set_cons_zero, List.set_cons_succ]
      refine wpAnyH_take (i := 18) (oi := { dst := some 63, op := Op.binOp BinOp.eql 3 (Operand.tmp 62) (Operand.const (Value.int IntKind.i64 1)) 3, type := 4, pos := "laws.go:360", after := #[{ on := 17, ground := Ground.data }, { on := 14, ground := Ground.guard }], guard := some (14, true) }) (v := ?_) rfl (by kernel_rfl) (by kernel_rfl) (by kernel_rfl) (fun _ _ _ h => h) (Or.inl ⟨by rfl, ?_⟩) (by assumption) ?_
      rotate_left
      · (intro u hSw; (try dsimp only at hSw); go_simp; try with_reducible rfl)
      try simp only [Act.put, List.setIfInBounds_toArray, List.set_cons_zero, List.set_cons_succ]
      refine wpAnyH_take (i := 19) (oi := { dst := some 64, op := Op.pick (Operand.tmp 59) (Operand.tmp 63) (Operand.const (Value.bool false)), type := 4, pos := "laws.go:360", after := #[{ on := 14, ground := Ground.data }, { on := 18, ground := Ground.data }], guard := none }) (v := ?_) rfl (by kernel_rfl) (by kernel_rfl) (by kernel_rfl) (fun _ _ _ h => h) (Or.inl ⟨by rfl, ?_⟩) (by assumption) ?_
      rotate_left
      · (intro u hSw; (try dsimp only at hSw); go_simp; try with_reducible rfl)
      try simp only [Act.put, List.setIfInBounds_toArray, List.set_cons_zero, List.set_cons_succ]
      refine wpAnyH_take (i := 20) (oi := { dst := some 65, op := Op.move (Operand.tmp 64), type := 4, pos := "laws.go:360", after := #[{ on := 19, ground := Ground.data }, { on := 16, ground := Ground.chain }], guard := none }) (v := ?_) rfl (by kernel_rfl) (by kernel_rfl) (by kernel_rfl) (fun _ _ _ h => h) (Or.inl ⟨by rfl, ?_⟩) (by assumption) ?_
      rotate_left
      · (intro u hSw; (try dsimp only at hSw); go_simp; try with_reducible rfl)
      try simp only [Act.put, List.setIfInBounds_toArray, List.set_cons_zero, List.set_cons_succ]
      refine wpAnyH_ready (rs := [21]) (by kernel_rfl) (by simp) ?_
      refine AllReadyH.cons (o := { dst := some 66, op := Op.call { callee := Callee.value (Operand.func 11), args := #[Operand.const (Value.string { data := #[46] }), Operand.const (Value.string { data := #[] }), Operand.const (Value.int IntKind.i64 0)], argTypes := #[9, 9, 3] }, type := 24, pos := "laws.go:360", after := #[{ on := 20, ground := Ground.chain }, { on := 20, ground := Ground.guard }], guard := some (20, true) }) rfl (fun K hK => ?_) AllReadyH.nil
      go_simp
      go_at_call 11
      refine (CE.out _ _ _ (OfTwo.two _ _ _ _)).mono ?_
      rintro e w12 ⟨fa, fc, rfl, hb1⟩
      dsimp only
      refine hK.out _ _ (keepQ hb1 (Nat.le_refl _) hH1) (fun hH2 => ?_)
      clear hK K hb1 hH1
      try simp only [Act.put, List.setIfInBounds_toArray, List.set_cons_zero, List.set_cons_succ]
      refine wpAnyH_take (i := 22) (oi := { dst := some 67, op := Op.call { callee := Callee.builtin Builtin.len, args := #[Operand.tmp 66], argTypes := #[24] }, type := 3, pos := "laws.go:360", after := #[{ on := 21, ground := Ground.data }, { on := 20, ground := Ground.guard }], guard := some (20, true) }) (v := ?_) rfl (by kernel_rfl) (by kernel_rfl) (by kernel_rfl) (fun _ _ _ h => h) (Or.inl ⟨by rfl, ?_⟩) (by assumption) ?_
      rotate_left
      · (intro u hSw; (try dsimp only at hSw); go_simp; try with_reducible rfl)
      try simp only [Act.put, List.setIfInBounds_toArray, List.set_cons_zero, List.set_cons_succ]
      refine wpAnyH_take (i := 23) (oi := { dst := some 68, op := Op.binOp BinOp.eql 3 (Operand.tmp 67) (Operand.const (Value.int IntKind.i64 0)) 3, type := 4, pos := "laws.go:360", after := #[{ on := 22, ground := Ground.data }, { on := 20, ground := Ground.guard }], guard := some (20, true) }) (v := ?_) rfl (by kernel_rfl) (by kernel_rfl) (by kernel_rfl) (fun _ _ _ h => h) (Or.inl ⟨by rfl, ?_⟩) (by assumption) ?_
      rotate_left
      · (intro u hSw; (try dsimp only at hSw); go_simp; try with_reducible rfl)
      try simp only [Act.put, List.setIfInBounds_toArray, List.set_cons_zero, List.set_cons_succ]
      refine wpAnyH_take (i := 24) (oi := { dst := some 69, op := Op.pick (Operand.tmp 65) (Operand.tmp 68) (Operand.const (Value.bool false)), type := 4, pos := "laws.go:360", after := #[{ on := 20, ground := Ground.data }, { on := 23, ground := Ground.data }], guard := none }) (v := ?_) rfl (by kernel_rfl) (by kernel_rfl) (by kernel_rfl) (fun _ _ _ h => h) (Or.inl ⟨by rfl, ?_⟩) (by assumption) ?_
      rotate_left
      · (intro u hSw; (try dsimp only at hSw); go_simp; try with_reducible rfl)
      try simp only [Act.put, List.setIfInBounds_toArray, List.set_cons_zero, List.set_cons_succ]
      refine wpAnyH_take (i := 25) (oi := { dst := some 70, op := Op.move (Operand.tmp 69), type := 4, pos := "laws.go:360", after := #[{ on := 24, ground := Ground.data }, { on := 21, ground := Ground.chain }], guard := none }) (v := ?_) rfl (by kernel_rfl) (by kernel_rfl) (by kernel_rfl) (fun _ _ _ h => h) (Or.inl ⟨by rfl, ?_⟩) (by assumption) ?_
      rotate_left
      · (intro u hSw; (try dsimp only at hSw); go_simp; try with_reducible rfl)
      try simp only [Act.put, List.setIfInBounds_toArray, List.set_cons_zero, List.set_cons_succ]
      refine wpAnyH_take (i := 26) (oi := { dst := some 71, op := Op.move (Operand.tmp 9), type := 4, pos := "laws.go:360", after := #[{ on := 25, ground := Ground.guard }], guard := some (25, true) }) (v := ?_) rfl (by kernel_rfl) (by kernel_rfl) (by kernel_rfl) (fun _ _ _ h => h) (Or.inl ⟨by rfl, ?_⟩) (by assumption) ?_
      rotate_left
      · (intro u hSw; (try dsimp only at hSw); go_simp; try with_reducible rfl)
      try simp only [Act.put, List.setIfInBounds_toArray, List.set_cons_zero, List.set_cons_succ]
      refine wpAnyH_take (i := 27) (oi := { dst := some 72, op := Op.move (Operand.tmp 11), type := 4, pos := "laws.go:360", after := #[{ on := 25, ground := Ground.guard }], guard := some (25, true) }) (v := ?_) rfl (by kernel_rfl) (by kernel_rfl) (by kernel_rfl) (fun _ _ _ h => h) (Or.inl ⟨by rfl, ?_⟩) (by assumption) ?_
      rotate_left
      · (intro u hSw; (try dsimp only at hSw); go_simp; try with_reducible rfl)
      try simp only [Act.put, List.setIfInBounds_toArray, List.set_cons_zero, List.set_cons_succ]
      refine wpAnyH_take (i := 28) (oi := { dst := some 73, op := Op.binOp BinOp.eql 4 (Operand.tmp 71) (Operand.tmp 72) 4, type := 4, pos := "laws.go:360", after := #[{ on := 26, ground := Ground.data }, { on := 27, ground := Ground.data }, { on := 25, ground := Ground.guard }], guard := some (25, true) }) (v := ?_) rfl (by kernel_rfl) (by kernel_rfl) (by kernel_rfl) (fun _ _ _ h => h) (Or.inl ⟨by rfl, ?_⟩) (by assumption) ?_
      rotate_left
      · (intro u hSw; (try dsimp only at hSw); go_simp; try with_reducible rfl)
      try simp only [Act.put, List.setIfInBounds_toArray, List.set_cons_zero, List.set_cons_succ]
      refine wpAnyH_take (i := 29) (oi := { dst := some 74, op := Op.pick (Operand.tmp 70) (Operand.tmp 73) (Operand.const (Value.bool false)), type := 4, pos := "laws.go:360", after := #[{ on := 25, ground := Ground.data }, { on := 28, ground := Ground.data }], guard := none }) (v := ?_) rfl (by kernel_rfl) (by kernel_rfl) (by kernel_rfl) (fun _ _ _ h => h) (Or.inl ⟨by rfl, ?_⟩) (by assumption) ?_
      rotate_left
      · (intro u hSw; (try dsimp only at hSw); go_simp; try with_reducible rfl)
      try simp only [Act.put, List.setIfInBounds_toArray, List.set_cons_zero, List.set_cons_succ]
      refine wpAnyH_take (i := 30) (oi := { dst := some 75, op := Op.move (Operand.tmp 74), type := 4, pos := "laws.go:360", after := #[{ on := 29, ground := Ground.data }, { on := 25, ground := Ground.chain }], guard := none }) (v := ?_) rfl (by kernel_rfl) (by kernel_rfl) (by kernel_rfl) (fun _ _ _ h => h) (Or.inl ⟨by rfl, ?_⟩) (by assumption) ?_
      rotate_left
      · (intro u hSw; (try dsimp only at hSw); go_simp; try with_reducible rfl)
      try simp only [Act.put, List.setIfInBounds_toArray, List.set_cons_zero, List.set_cons_succ]
      refine wpAnyH_take (i := 31) (oi := { dst := some 76, op := Op.move (Operand.tmp 9), type := 4, pos := "laws.go:360", after := #[{ on := 30, ground := Ground.guard }], guard := some (30, true) }) (v := ?_) rfl (by kernel_rfl) (by kernel_rfl) (by kernel_rfl) (fun _ _ _ h => h) (Or.inl ⟨by rfl, ?_⟩) (by assumption) ?_
      rotate_left
      · (intro u hSw; (try dsimp only at hSw); go_simp; try with_reducible rfl)
      try simp only [Act.put, List.setIfInBounds_toArray, List.set_cons_zero, List.set_cons_succ]
      refine wpAnyH_take (i := 32) (oi := { dst := some 77, op := Op.unOp UnOp.not 4 (Operand.tmp 76), type := 4, pos := "laws.go:360", after := #[{ on := 31, ground := Ground.data }, { on := 30, ground := Ground.guard }], guard := some (30, true) }) (v := ?_) rfl (by kernel_rfl) (by kernel_rfl) (by kernel_rfl) (fun _ _ _ h => h) (Or.inl ⟨by rfl, ?_⟩) (by assumption) ?_
      rotate_left
      · (intro u hSw; (try dsimp only at hSw); go_simp; try with_reducible rfl)
      try simp only [Act.put, List.setIfInBounds_toArray, List.set_cons_zero, List.set_cons_succ]
      refine wpAnyH_take (i := 33) (oi := { dst := some 78, op := Op.move (Operand.tmp 77), type := 4, pos := "laws.go:360", after := #[{ on := 32, ground := Ground.data }, { on := 30, ground := Ground.chain }, { on := 30, ground := Ground.guard }], guard := some (30, true) }) (v := ?_) rfl (by kernel_rfl) (by kernel_rfl) (by kernel_rfl) (fun _ _ _ h => h) (Or.inl ⟨by rfl, ?_⟩) (by assumption) ?_
      rotate_left
      · (intro u hSw; (try dsimp only at hSw); go_simp; try with_reducible rfl)
      try simp only [Act.put, List.setIfInBounds_toArray, List.set_cons_zero, List.set_cons_succ]
      refine wpAnyH_take (i := 34) (oi := { dst := some 79, op := Op.load 30 (Operand.tmp 8), type := 30, pos := "laws.go:360", after := #[{ on := 33, ground := Ground.guard }], guard := some (33, false) }) (v := undef) rfl (by kernel_rfl) (by kernel_rfl) (by kernel_rfl) (fun _ _ _ h => h) (Or.inr ⟨by rfl, rfl⟩) (by assumption) ?_
      try simp only [Act.put, List.setIfInBounds_toArray, List.set_cons_zero, List.set_cons_succ]
      refine wpAnyH_take (i := 35) (oi := { dst := some 80, op := Op.call { callee := Callee.value (Operand.func 15), args := #[Operand.tmp 79], argTypes := #[30] }, type := 4, pos := "laws.go:360", after := #[{ on := 34, ground := Ground.data }, { on := 33, ground := Ground.chain }, { on := 33, ground := Ground.guard }], guard := some (33, false) }) (v := undef) rfl (by kernel_rfl) (by kernel_rfl) (by kernel_rfl) (fun _ _ _ h => h) (Or.inr ⟨by rfl, rfl⟩) (by assumption) ?_
      try simp only [Act.put, List.setIfInBounds_toArray, List.set_cons_zero, List.set_cons_succ]
      refine wpAnyH_take (i := 36) (oi := { dst := some 81, op := Op.pick (Operand.tmp 78) (Operand.const (Value.bool true)) (Operand.tmp 80), type := 4, pos := "laws.go:360", after := #[{ on := 33, ground := Ground.data }, { on := 35, ground := Ground.data }, { on := 30, ground := Ground.guard }], guard := some (30, true) }) (v := ?_) rfl (by kernel_rfl) (by kernel_rfl) (by kernel_rfl) (fun _ _ _ h => h) (Or.inl ⟨by rfl, ?_⟩) (by assumption) ?_
      rotate_left
      · (intro u hSw; (try dsimp only at hSw); go_simp; try with_reducible rfl)
      try simp only [Act.put, List.setIfInBounds_toArray, List.set_cons_zero, List.set_cons_succ]
      refine wpAnyH_take (i := 37) (oi := { dst := some 82, op := Op.pick (Operand.tmp 75) (Operand.tmp 81) (Operand.const (Value.bool false)), type := 4, pos := "laws.go:360", after := #[{ on := 30, ground := Ground.data }, { on := 36, ground := Ground.data }], guard := none }) (v := ?_) rfl (by kernel_rfl) (by kernel_rfl) (by kernel_rfl) (fun _ _ _ h => h) (Or.inl ⟨by rfl, ?_⟩) (by assumption) ?_
      rotate_left
      · (intro u hSw; (try dsimp only at hSw); go_simp; try with_reducible rfl)
      try simp only [Act.put, List.setIfInBounds_toArray, List.set_cons_zero, List.set_cons_succ]
      refine wpAnyH_take (i := 38) (oi := { dst := some 83, op := Op.move (Operand.tmp 82), type := 4, pos := "laws.go:360", after := #[{ on := 37, ground := Ground.data }, { on := 35, ground := Ground.chain }], guard := none }) (v := ?_) rfl (by kernel_rfl) (by kernel_rfl) (by kernel_rfl) (fun _ _ _ h => h) (Or.inl ⟨by rfl, ?_⟩) (by assumption) ?_
      rotate_left
      · (intro u hSw; (try dsimp only at hSw); go_simp; try with_reducible rfl)
      try simp only [Act.put, List.setIfInBounds_toArray, List.set_cons_zero, List.set_cons_succ]
      refine wpAnyH_take (i := 39) (oi := { dst := some 84, op := Op.load 30 (Operand.tmp 12), type := 30, pos := "laws.go:360", after := #[{ on := 38, ground := Ground.guard }], guard := some (38, true) }) (v := ?_) rfl (by kernel_rfl) (by kernel_rfl) (by kernel_rfl) (fun _ _ _ h => h) (Or.inl ⟨by rfl, ?_⟩) (by assumption) ?_
      rotate_left
      · (intro u hSw; (try dsimp only at hSw); go_simp; try with_reducible rfl)
      try simp only [Act.put, List.setIfInBounds_toArray, List.set_cons_zero, List.set_cons_succ]
      refine wpAnyH_take (i := 41) (oi := { dst := some 86, op := Op.load 30 (Operand.tmp 12), type := 30, pos := "laws.go:360", after := #[{ on := 38, ground := Ground.guard }], guard := some (38, true) }) (v := ?_) rfl (by kernel_rfl) (by kernel_rfl) (by kernel_rfl) (fun _ _ _ h => h) (Or.inl ⟨by rfl, ?_⟩) (by assumption) ?_
      rotate_left
      · (intro u hSw; (try dsimp only at hSw); go_simp; try with_reducible rfl)
      try simp only [Act.put, List.setIfInBounds_toArray, List.set_cons_zero, List.set_cons_succ]
      refine wpAnyH_ready (rs := [40]) (by kernel_rfl) (by simp) ?_
      refine AllReadyH.cons (o := { dst := some 85, op := Op.call { callee := Callee.value (Operand.func 15), args := #[Operand.tmp 84], argTypes := #[30] }, type := 4, pos := "laws.go:360", after := #[{ on := 39, ground := Ground.data }, { on := 38, ground := Ground.chain }, { on := 38, ground := Ground.guard }], guard := some (38, true) }) rfl (fun K hK => ?_) AllReadyH.nil
      go_simp
      go_at_call 15
      refine (CZ.out _ hH2).mono ?_
      rintro e w13 ⟨rfl, hb1⟩
      dsimp only
      refine hK.out _ _ (keepQ hb1 (Nat.le_refl _) hH2) (fun hH3 => ?_)
      clear hK K hb1 hH2
      try simp only [Act.put, List.setIfInBounds_toArray, List.set_cons_zero, List.set_cons_succ]
      refine wpAnyH_ready (rs := [42]) (by kernel_rfl) (by simp) ?_
      refine AllReadyH.cons (o := { dst := some 87, op := Op.call { callee := Callee.value (Operand.func 16), args := #[Operand.tmp 86], argTypes := #[30] }, type := 4, pos := "laws.go:360", after := #[{ on := 41, ground := Ground.data }, { on := 40, ground := Ground.chain }, { on := 38, ground := Ground.guard }], guard := some (38, true) }) rfl (fun K hK => ?_) AllReadyH.nil
      go_simp
      go_at_call 16
      refine (CS.out _ hH3).mono ?_
      rintro e w14 ⟨rfl, hb1⟩
      dsimp only
      refine hK.out _ _ (keepQ hb1 (Nat.le_refl _) hH3) (fun hH4 => ?_)
      clear hK K hb1 hH3
      try simp only [Act.put, List.setIfInBounds_toArray, List.set_cons_zero, List.set_cons_succ]
      refine wpAnyH_take (i := 43) (oi := { dst := some 88, op := Op.binOp BinOp.eql 4 (Operand.tmp 85) (Operand.tmp 87) 4, type := 4, pos := "laws.go:360", after := #[{ on := 40, ground := Ground.data }, { on := 42, ground := Ground.data }, { on := 38, ground := Ground.guard }], guard := some (38, true) }) (v := ?_) rfl (by kernel_rfl) (by kernel_rfl) (by kernel_rfl) (fun _ _ _ h => h) (Or.inl ⟨by rfl, ?_⟩) (by assumption) ?_
      rotate_left
      · (intro u hSw; (try dsimp only at hSw); go_simp; try with_reducible rfl)
      try simp only [Act.put, List.setIfInBounds_toArray, List.set_cons_zero, List.set_cons_succ]
      refine wpAnyH_take (i := 44) (oi := { dst := some 89, op := Op.pick (Operand.tmp 83) (Operand.tmp 88) (Operand.const (Value.bool false)), type := 4, pos := "laws.go:360", after := #[{ on := 38, ground := Ground.data }, { on := 43, ground := Ground.data }], guard := none }) (v := ?_) rfl (by kernel_rfl) (by kernel_rfl) (by kernel_rfl) (fun _ _ _ h => h) (Or.inl ⟨by rfl, ?_⟩) (by assumption) ?_
      rotate_left
      · (intro u hSw; (try dsimp only at hSw); go_simp; try with_reducible rfl)
      try simp only [Act.put, List.setIfInBounds_toArray, List.set_cons_zero, List.set_cons_succ]
      refine wpAnyH_take (i := 45) (oi := { dst := some 2, op := Op.assign (Operand.tmp 89), type := 4, pos := "laws.go:360", after := #[{ on := 44, ground := Ground.data }, { on := 42, ground := Ground.chain }, { on := 0, ground := Ground.phase }, { on := 1, ground := Ground.phase }, { on := 2, ground := Ground.phase }, { on := 3, ground := Ground.phase }, { on := 4, ground := Ground.phase }, { on := 5, ground := Ground.phase }, { on := 6, ground := Ground.phase }, { on := 7, ground := Ground.phase }, { on := 8, ground := Ground.phase }, { on := 9, ground := Ground.phase }, { on := 10, ground := Ground.phase }, { on := 11, ground := Ground.phase }, { on := 12, ground := Ground.phase }, { on := 13, ground := Ground.phase }, { on := 14, ground := Ground.phase }, { on := 15, ground := Ground.phase }, { on := 16, ground := Ground.phase }, { on := 17, ground := Ground.phase }, { on := 18, ground := Ground.phase }, { on := 19, ground := Ground.phase }, { on := 20, ground := Ground.phase }, { on := 21, ground := Ground.phase }, { on := 22, ground := Ground.phase }, { on := 23, ground := Ground.phase }, { on := 24, ground := Ground.phase }, { on := 25, ground := Ground.phase }, { on := 26, ground := Ground.phase }, { on := 27, ground := Ground.phase }, { on := 28, ground := Ground.phase }, { on := 29, ground := Ground.phase }, { on := 30, ground := Ground.phase }, { on := 31, ground := Ground.phase }, { on := 32, ground := Ground.phase }, { on := 33, ground := Ground.phase }, { on := 34, ground := Ground.phase }, { on := 35, ground := Ground.phase }, { on := 36, ground := Ground.phase }, { on := 37, ground := Ground.phase }, { on := 38, ground := Ground.phase }, { on := 39, ground := Ground.phase }, { on := 40, ground := Ground.phase }, { on := 41, ground := Ground.phase }, { on := 42, ground := Ground.phase }, { on := 43, ground := Ground.phase }, { on := 44, ground := Ground.phase }], guard := none }) (v := ?_) rfl (by kernel_rfl) (by kernel_rfl) (by kernel_rfl) (fun _ _ _ h => h) (Or.inl ⟨by rfl, ?_⟩) (by assumption) ?_
      rotate_left
      · (intro u hSw; (try dsimp only at hSw); go_simp; try with_reducible rfl)
      try simp only [Act.put, List.setIfInBounds_toArray, List.set_cons_zero, List.set_cons_succ]
      refine wpAnyH_done (by kernel_rfl) ?_ _
      refine NoPanic.normal ?_
      go_wp2
      go_ret
      exact ⟨rfl, HFIN.out _ hH4.2.2.2.out⟩
#print axioms lawSets
end Go.Proofs.Ytibmagmdeacenac
