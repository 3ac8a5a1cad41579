/- The bytes of a right store are few. What DrawStoreText and DrawReadStore answer. Plain facts: what is read of the bytes of code. Plain facts: what is read of the bytes of a store. -/
import Derived.Test.YtmofljfffcnlbaaMPSxStX
import Derived.Test.YtmofljfffcnlbaaMPSxDAn
import Derived.Test.YtmofljfffcnlbaaMPSxZan
import Derived.Test.YtmofljfffcnlbaaMPSxZas
import Derived.Test.YtmofljfffcnlbaaMPSxZar
import Derived.Test.YtmofljfffcnlbaaMPSxZat
namespace Go.Proofs.Ytmofljfffcnlbaa
section PartStL
open Go.RowKit

theorem St.bytes_len {vs : List Vr} {cs : List Cl} {o : ByteArray} (h : St.ok vs cs o = true) : (St.bytes vs cs o).length ≤ 260000 := by
  obtain ⟨g1, g2, g3, g4, g5⟩ := St.ok_sizes h
  have a1 := l01_bytes vs.length
  have a2 := l01_bytes cs.length
  have a3 := St.short_le g3
  have b1 := Cd.flat_le St.vbytes 66 vs (fun y hy => by
    obtain ⟨i, hi, e⟩ := List.mem_iff_getElem.1 hy
    have h3 := g4 i hi
    rw [List.getD_eq_getElem?_getD, List.getElem?_eq_getElem hi] at h3
    simp only [Option.getD_some, e] at h3
    have h4 := St.short_le h3.1
    have h5 := St.short_le h3.2
    unfold St.vbytes
    rw [List.length_append]
    omega)
  have b2 := Cd.flat_le St.cbytes 115 cs (fun y hy => by
    obtain ⟨i, hi, e⟩ := List.mem_iff_getElem.1 hy
    have h3 := g5 i hi
    rw [List.getD_eq_getElem?_getD, List.getElem?_eq_getElem hi] at h3
    simp only [Option.getD_some, e] at h3
    have h4 := St.short_le h3.1
    have h5 := St.short_le h3.2.1
    have h7 := St.short_le h3.2.2
    unfold St.cbytes
    rw [List.length_append, List.length_append]
    omega)
  unfold St.bytes
  simp only [List.length_append]
  omega
/-- What StoreText answers: a text of few bytes. -/
theorem St.text_form (vs : List Vr) (cs : List Cl) (o : ByteArray) : ∃ (s : ByteArray) (b : Bool), St.text? vs cs o = .tuple #[.string s, .bool b] ∧ s.size ≤ 260000 ∧ b = St.ok vs cs o ∧ (b = true → s.data.toList = St.bytes vs cs o) := by
  unfold St.text?
  by_cases h : St.ok vs cs o = true
  · rw [if_pos h]
    refine ⟨_, _, rfl, ?_, h.symm, fun _ => by simp⟩
    have := St.bytes_len h
    show (St.bytes vs cs o).toArray.size ≤ _
    simpa using this
  · rw [if_neg h]
    refine ⟨_, _, rfl, by decide, ?_, fun e => by simp at e⟩
    cases hb : St.ok vs cs o
    · rfl
    · exact absurd hb h
end PartStL
section PartDSx
open Go.RowKit

set_option maxRecDepth 100000 in
theorem res_store1 {fn : Func} {p : Tmp} (h : fn.results = #[.cell p 27]) (tmps : Array Value) (w : World) (g : Nat) (v0 v1 v2 : Value) (hp : tmps.getD p undef = .pointer (some ⟨g, 0, none⟩)) (hg : w.heap[g]? = some (.cells #[v0, v1, v2] 27 (0, 0))) :
    (results fn tmps).run Try.prog w = .ok (.agg #[v0, v1, v2]) w :=
  results_cell_row h tmps w g 27 #[v0, v1, v2] (0, 0) _ hp hg Try.underlying27 rfl (by kernel_rfl)
set_option maxRecDepth 100000 in
theorem set3_other (V : World) (g : Nat) (a0 a1 a2 : Value) (b : Nat) (hb : b ≠ g) : (((V.setCell ⟨g, 0, none⟩ a0).setCell ⟨g, 1, none⟩ a1).setCell ⟨g, 2, none⟩ a2).heap[b]? = V.heap[b]? := by
  rw [Below.heap_setCell _ _ _ _ (by show b ≠ g; exact hb), Below.heap_setCell _ _ _ _ (by show b ≠ g; exact hb), Below.heap_setCell _ _ _ _ (by show b ≠ g; exact hb)]
set_option maxRecDepth 100000 in
theorem set3_below (V : World) (B g : Nat) (a0 a1 a2 : Value) (hb : B ≤ g) : Below B V (((V.setCell ⟨g, 0, none⟩ a0).setCell ⟨g, 1, none⟩ a1).setCell ⟨g, 2, none⟩ a2) :=
  (((Below.refl _ _).setCell (by exact hb) _).setCell (by exact hb) _).setCell (by exact hb) _
set_option maxRecDepth 100000 in
theorem set3_here {V : World} {g : Nat} {x0 x1 x2 a0 a1 a2 : Value} (h : V.heap[g]? = some (.cells #[x0, x1, x2] 27 (0, 0))) : (((V.setCell ⟨g, 0, none⟩ a0).setCell ⟨g, 1, none⟩ a1).setCell ⟨g, 2, none⟩ a2).heap[g]? = some (.cells #[a0, a1, a2] 27 (0, 0)) :=
  blk_set (blk_set (blk_set h 0 a0) 1 a1) 2 a2

set_option maxHeartbeats 2000000 in
set_option maxRecDepth 100000 in
/-- A spoilt text is no longer than the text and a byte. -/
theorem spoilt_any (B g n cap : Nat) (ad : Option Addr) (s : ByteArray) (w : World) (hd : Drw B w g ad n cap) (hB : B ≤ w.heap.size) (hs : s.size ≤ 1000000) :
    Calls Try.prog 24 #[.pointer (some ⟨g, 0, none⟩), .string s] w fun e w' => ∃ t : ByteArray, e = .returned (.string t) ∧ t.size ≤ 1000002 ∧ w.grownBy w' (some g) := by
  have H0 : Hid (Drw B w g ad n cap) := hd
  have CT : Hid (∀ W, Drw B W g ad n cap → B ≤ W.heap.size → Calls Try.prog 44 #[.pointer (some ⟨g, 0, none⟩), .int .i64 1] W fun e w' => ∃ bs : List UInt8, bs.length = 1 ∧ e = .returned (.string ⟨bs.toArray⟩) ∧ Drw B w' g ad n cap ∧ W.grownBy w' (some g)) := fun W h1 h2 => text_any B g n cap ad 1 W h1 h2 (by decide)
  have hsl : ∀ wx (k : Nat), k ≤ s.size → (Instr.slice 9 (.string s) none (some (.int .i64 (k : Int))) none).run Try.prog wx = .ok (.string (s.extract 0 k)) wx := by
    intro wx k hk
    rw [run_slice_string_to_if wx 9 s .i64 (k : Int) Try.underlying9, if_pos (by omega)]
    rfl
  have hsr : ∀ wx (k : Nat), k ≤ s.size → (Instr.slice 9 (.string s) (some (.int .i64 (k : Int))) none none).run Try.prog wx = .ok (.string (s.extract k s.size)) wx := by
    intro wx k hk
    rw [run_slice_string_from_if wx 9 s .i64 (k : Int) Try.underlying9, if_pos (by omega)]
    rfl
  have HSL : Hid _ := hsl
  have HSR : Hid _ := hsr
  clear hd hsl hsr
  go_enter Try.func24, Try.ntmps24
  go_wp2_with fail
  refine (below_any B g n cap ad 12 w H0.out (by decide) (by decide)).mono ?_
  rintro e w1 ⟨y, hy, rfl, d1, g1⟩
  have H1 : Hid (Drw B w1 g ad n cap ∧ w.grownBy w1 (some g)) := ⟨d1, g1⟩
  have hz1 : B ≤ w1.heap.size := Nat.le_trans hB g1.size
  clear d1 g1 H0
  rcases (by omega : y = 0 ∨ y = 1 ∨ y = 2 ∨ y = 3 ∨ 4 ≤ y) with rfl | rfl | rfl | rfl | hy4
  · go_wp2_with fail
    refine (CT.out w1 H1.out.1 hz1).mono ?_
    rintro e w2 ⟨bs, hb, rfl, d2, g2⟩
    have H2 : Hid (w.grownBy w2 (some g)) := grown_trans H1.out.2 g2
    clear d2 g2
    go_wp2
    go_ret
    refine ⟨_, rfl, ?_, H2.out⟩
    simp only [ByteArray.size_append]
    show s.size + bs.toArray.size ≤ _
    simp only [List.size_toArray]
    omega
  · have hwr : IntKind.i64.wrap ((s.size : Int) + 1) = (s.size : Int) + 1 := IntWalk.i64_in _ (by omega)
    have ha : ((s.size : Int) + 1) = ((s.size + 1 : Nat) : Int) := by omega
    have CB : Hid (Calls Try.prog 31 #[.pointer (some ⟨g, 0, none⟩), .int .i64 ((s.size : Int) + 1)] w1 fun e w' => ∃ x : Nat, x < s.size + 1 ∧ e = .returned (.int .i64 (x : Int)) ∧ Drw B w' g ad n cap ∧ w1.grownBy w' (some g)) := by
      have := below_any B g n cap ad (s.size + 1) w1 H1.out.1 (by omega) (by omega)
      rw [← ha] at this
      exact this
    clear ha
    go_wp2_with fail
    refine CB.out.mono ?_
    rintro e w2 ⟨x, hx, rfl, d2, g2⟩
    have H2 : Hid (w.grownBy w2 (some g)) := grown_trans H1.out.2 g2
    have hsl2 : ∀ wx, (Instr.slice 9 (.string s) none (some (.int .i64 (x : Int))) none).run Try.prog wx = .ok (.string (s.extract 0 x)) wx := fun wx => HSL.out wx x (by omega)
    clear d2 g2 CB CT
    go_wp2
    go_ret
    refine ⟨_, rfl, ?_, H2.out⟩
    simp only [ByteArray.size_extract]
    omega
  · by_cases h0 : 0 < s.size
    · have d0 : decide ((0 : Int) < (s.size : Int)) = true := decide_eq_true (by omega)
      have CB : Hid (Calls Try.prog 31 #[.pointer (some ⟨g, 0, none⟩), .int .i64 (s.size : Int)] w1 fun e w' => ∃ x : Nat, x < s.size ∧ e = .returned (.int .i64 (x : Int)) ∧ Drw B w' g ad n cap ∧ w1.grownBy w' (some g)) := below_any B g n cap ad s.size w1 H1.out.1 h0 (by omega)
      go_wp2_with fail
      refine CB.out.mono ?_
      rintro e w2 ⟨x, hx, rfl, d2, g2⟩
      have H2 : Hid (Drw B w2 g ad n cap ∧ w.grownBy w2 (some g)) := ⟨d2, grown_trans H1.out.2 g2⟩
      have hz2 : B ≤ w2.heap.size := Nat.le_trans hz1 g2.size
      have hsl2 : ∀ wx, (Instr.slice 9 (.string s) none (some (.int .i64 (x : Int))) none).run Try.prog wx = .ok (.string (s.extract 0 x)) wx := fun wx => HSL.out wx x (by omega)
      have ex : ((x : Int) + 1) = ((x + 1 : Nat) : Int) := by omega
      have hsr2 : ∀ wx, (Instr.slice 9 (.string s) (some (.int .i64 ((x : Int) + 1))) none none).run Try.prog wx = .ok (.string (s.extract (x + 1) s.size)) wx := fun wx => by rw [ex]; exact HSR.out wx (x + 1) (by omega)
      have HXS : Hid (x < s.size) := hx
      have hwr : IntKind.i64.wrap ((x : Int) + 1) = (x : Int) + 1 := IntWalk.i64_in _ (by omega)
      clear d2 g2 CB ex hx
      go_wp2_with fail
      have CT2 : Hid (Calls Try.prog 44 #[.pointer (some ⟨g, 0, none⟩), .int .i64 1] w2.drew fun e w' => ∃ bs : List UInt8, bs.length = 1 ∧ e = .returned (.string ⟨bs.toArray⟩) ∧ w.grownBy w' (some g)) := by
        refine (CT.out w2.drew (H2.out.1.keep (Below.refl _ _).drew) hz2).mono ?_
        rintro e w' ⟨bs, h1, rfl, -, h3⟩
        exact ⟨bs, h1, rfl, grown_trans H2.out.2 (grown_trans (grown_draw (grown_refl _ _) 1) h3)⟩
      clear CT
      go_region_with ((go_at_call 44; refine CT2.out.mono ?_; rintro e w3 ⟨bs, hb, rfl, g3⟩))
      all_goals
        have H3 : Hid (w.grownBy w3 (some g)) := g3
        clear g3 CT2
        go_wp2
        go_ret
        refine ⟨_, rfl, ?_, H3.out⟩
        simp only [ByteArray.size_append, ByteArray.size_extract]
        have hbs : (⟨bs.toArray⟩ : ByteArray).size = 1 := by show bs.toArray.size = 1; simpa using hb
        omega
    · have d0 : decide ((0 : Int) < (s.size : Int)) = false := decide_eq_false (by omega)
      go_wp2
      go_ret
      exact ⟨s, rfl, by omega, H1.out.2⟩
  · by_cases h0 : 0 < s.size
    · have d0 : decide ((0 : Int) < (s.size : Int)) = true := decide_eq_true (by omega)
      have CB : Hid (Calls Try.prog 31 #[.pointer (some ⟨g, 0, none⟩), .int .i64 (s.size : Int)] w1 fun e w' => ∃ x : Nat, x < s.size ∧ e = .returned (.int .i64 (x : Int)) ∧ Drw B w' g ad n cap ∧ w1.grownBy w' (some g)) := below_any B g n cap ad s.size w1 H1.out.1 h0 (by omega)
      go_wp2_with fail
      refine CB.out.mono ?_
      rintro e w2 ⟨x, hx, rfl, d2, g2⟩
      have H2 : Hid (Drw B w2 g ad n cap ∧ w.grownBy w2 (some g)) := ⟨d2, grown_trans H1.out.2 g2⟩
      have hz2 : B ≤ w2.heap.size := Nat.le_trans hz1 g2.size
      have hsl2 : ∀ wx, (Instr.slice 9 (.string s) none (some (.int .i64 (x : Int))) none).run Try.prog wx = .ok (.string (s.extract 0 x)) wx := fun wx => HSL.out wx x (by omega)
      have ex : ((x : Int) + 1) = ((x + 1 : Nat) : Int) := by omega
      have hsr2 : ∀ wx, (Instr.slice 9 (.string s) (some (.int .i64 ((x : Int) + 1))) none none).run Try.prog wx = .ok (.string (s.extract (x + 1) s.size)) wx := fun wx => by rw [ex]; exact HSR.out wx (x + 1) (by omega)
      have HXS : Hid (x < s.size) := hx
      have hwr : IntKind.i64.wrap ((x : Int) + 1) = (x : Int) + 1 := IntWalk.i64_in _ (by omega)
      clear d2 g2 CB ex hx
      go_wp2_with fail
      have CT2 : Hid (Calls Try.prog 44 #[.pointer (some ⟨g, 0, none⟩), .int .i64 1] w2.drew fun e w' => ∃ bs : List UInt8, bs.length = 1 ∧ e = .returned (.string ⟨bs.toArray⟩) ∧ w.grownBy w' (some g)) := by
        refine (CT.out w2.drew (H2.out.1.keep (Below.refl _ _).drew) hz2).mono ?_
        rintro e w' ⟨bs, h1, rfl, -, h3⟩
        exact ⟨bs, h1, rfl, grown_trans H2.out.2 (grown_trans (grown_draw (grown_refl _ _) 1) h3)⟩
      clear CT
      go_region_with ((go_at_call 44; refine CT2.out.mono ?_; rintro e w3 ⟨bs, hb, rfl, g3⟩))
      all_goals
        have H3 : Hid (w.grownBy w3 (some g)) := g3
        clear g3 CT2
        go_wp2
        go_ret
        refine ⟨_, rfl, ?_, H3.out⟩
        simp only [ByteArray.size_append, ByteArray.size_extract]
        have hbs : (⟨bs.toArray⟩ : ByteArray).size = 1 := by show bs.toArray.size = 1; simpa using hb
        omega
    · have d0 : decide ((0 : Int) < (s.size : Int)) = false := decide_eq_false (by omega)
      go_wp2
      go_ret
      exact ⟨s, rfl, by omega, H1.out.2⟩
  · have e0 : decide ((y : Int) = 0) = false := decide_eq_false (by omega)
    have e1 : decide ((y : Int) = 1) = false := decide_eq_false (by omega)
    have e2 : decide ((y : Int) = 2) = false := decide_eq_false (by omega)
    have e3 : decide ((y : Int) = 3) = false := decide_eq_false (by omega)
    go_wp2
    go_ret
    exact ⟨s, rfl, by omega, H1.out.2⟩

set_option maxHeartbeats 1000000 in
set_option maxRecDepth 100000 in
theorem dStoreText_any (ad : Option Addr) (n cap : Nat) (w : World) (hn : n ≤ 1048576) (hc : Code w ad n) :
    Calls Try.prog 5 #[.slice ad n cap] w fun e w' => ∃ (ua : Option Addr) (uc : Nat) (xa : Option Addr) (xc : Nat) (vs : List Vr) (cs : List Cl) (o : ByteArray), e = .returned (.agg #[.slice ua vs.length uc, .slice xa cs.length xc, .string o]) ∧ VrAt w' (.slice ua vs.length uc) vs ∧ ClAt w' (.slice xa cs.length xc) cs ∧ StSmall vs cs o ∧ Below w.heap.size w w' := by
  have hb0 : Below w.heap.size w (w.alloc (.cells #[.slice none 0 0, .slice none 0 0, .string ⟨#[]⟩] 27)) := (Below.refl _ _).alloc (Nat.le_refl _) _
  have q0 := heap_alloc_new w (.cells #[.slice none 0 0, .slice none 0 0, .string ⟨#[]⟩] 27)
  have C0 := hidOf8 (new_any ad n cap (w.alloc (.cells #[.slice none 0 0, .slice none 0 0, .string ⟨#[]⟩] 27)) hn (hc.keep hb0))
  have H0 := hidOf8 (And.intro hb0 q0)
  have hz0 : (w.alloc (.cells #[.slice none 0 0, .slice none 0 0, .string ⟨#[]⟩] 27)).heap.size = w.heap.size + 1 := by simp
  clear hb0 q0 hc
  go_enter Try.func5, Try.ntmps5
  go_wp2_with fail
  generalize w.alloc (.cells #[.slice none 0 0, .slice none 0 0, .string ⟨#[]⟩] 27) = W0 at *
  refine C0.out.mono ?_
  rintro e w1 ⟨rfl, d1, s1, b1⟩
  rw [hz0] at d1 s1
  have H1 := hidOf8 (And.intro (H0.out.1.trans (b1.mono H0.out.1.size)) ((b1.block _ (blk_lt H0.out.2)).trans H0.out.2))
  have C3 := hidOf8 (l08Any_any _ _ n cap ad w1 d1 (by omega))
  clear d1 C0 b1 H0
  rw [hz0]
  go_wp2_with fail
  refine C3.out.mono ?_
  rintro e w3 ⟨u, x, vs, cs, o, rfl, hv, hx, hf, -, g3⟩
  have hb3 : Below (w.heap.size + 1) w1 w3 := below_of_grown g3 (Nat.le_refl _) (by omega)
  have hsz : w.heap.size + 1 ≤ w3.heap.size := by have := g3.size; omega
  have H3 := hidOf8 (And.intro (H1.out.1.trans (hb3.mono (by omega))) (And.intro ((hb3.block _ (by omega)).trans H1.out.2) (And.intro hv (And.intro hx hf))))
  obtain ⟨ua, uc, rfl, -⟩ := hv
  obtain ⟨xa, xc, rfl, -⟩ := hx
  have r0 := (blk_cell H3.out.2.1 0).trans rfl
  have r1 := (blk_cell H3.out.2.1 1).trans rfl
  have r2 := (blk_cell H3.out.2.1 2).trans rfl
  have e0 := blk_free H3.out.2.1 0
  have e1 := blk_free H3.out.2.1 1
  have e2 := blk_free H3.out.2.1 2
  clear hb3 g3 H1 C3 hf
  go_wp2_with fail
  have T := set3_here (a0 := .slice ua vs.length uc) (a1 := .slice xa cs.length xc) (a2 := .string o) H3.out.2.1
  refine bodyPost_ret (res_store1 rfl _ _ w.heap.size _ _ _ rfl T) rfl ?_
  have e := set3_other w3 w.heap.size (.slice ua vs.length uc) (.slice xa cs.length xc) (.string o)
  exact ⟨ua, uc, xa, xc, vs, cs, o, rfl, (H3.out.2.2.1.keep (fun b h1 h2 => e b (by omega))).at, (H3.out.2.2.2.1.keep (fun b h1 h2 => e b (by omega))).at, H3.out.2.2.2.2.small, H3.out.1.trans (set3_below w3 w.heap.size w.heap.size _ _ _ (Nat.le_refl _))⟩

set_option maxHeartbeats 1000000 in
set_option maxRecDepth 100000 in
theorem dReadStore_any (ad : Option Addr) (n cap : Nat) (w : World) (hn : n ≤ 1048576) (hc : Code w ad n) :
    Calls Try.prog 8 #[.slice ad n cap] w fun e w' => ∃ t : ByteArray, e = .returned (.string t) ∧ t.size ≤ 1000002 ∧ Below w.heap.size w w' := by
  have C0 := hidOf8 (new_any ad n cap w hn hc)
  clear hc
  go_enter Try.func8, Try.ntmps8
  go_wp2_with fail
  refine C0.out.mono ?_
  rintro e w1 ⟨rfl, d1, s1, b1⟩
  have H1 := hidOf8 b1
  have C3 := hidOf8 (l08Any_any _ _ n cap ad w1 d1 (by omega))
  clear d1 C0 b1
  go_wp2_with fail
  refine C3.out.mono ?_
  rintro e w3 ⟨u, x, vs, cs, o, rfl, hv, hx, hf, hd3, g3⟩
  have hb3 : Below w.heap.size w1 w3 := below_of_grown g3 (Nat.le_refl _) (by omega)
  have hz3 : w.heap.size + 1 ≤ w3.heap.size := by have := g3.size; omega
  have H3 := hidOf8 (And.intro (H1.out.trans hb3) hd3)
  obtain ⟨s, b, hs, hsz, -, -⟩ := St.text_form vs cs o
  have C4 := spStoreText u x o vs cs w3 hv.at hx.at hf.small
  rw [hs] at C4
  have C4 := hidOf8 C4
  have HSZ := hidOf8 hsz
  obtain ⟨ua, uc, rfl, -⟩ := hv
  obtain ⟨xa, xc, rfl, -⟩ := hx
  clear hb3 g3 H1 C3 hf hd3 hs hsz
  go_wp2_with fail
  refine C4.out.mono ?_
  rintro e w4 ⟨rfl, b4⟩
  have hz4 : w.heap.size + 1 ≤ w4.heap.size := by have := b4.size; omega
  have H4 := hidOf8 (And.intro (H3.out.1.trans (b4.mono (by omega))) (H3.out.2.keep (b4.mono (by omega))))
  clear b4 C4 H3
  go_wp2_with fail
  refine (once_any _ _ n cap ad 3 w4 H4.out.2 (by decide) (by decide)).mono ?_
  rintro e w5 ⟨k, rfl, d5, g5⟩
  have hb5 : Below w.heap.size w4 w5 := below_of_grown g5 (Nat.le_refl _) (by omega)
  have hz5 : w.heap.size + 1 ≤ w5.heap.size := by have := g5.size; omega
  have H5 := hidOf8 (And.intro (H4.out.1.trans hb5) d5)
  clear d5 g5 hb5 H4
  cases k
  · go_wp2
    go_ret
    exact ⟨s, rfl, by have := HSZ.out; omega, H5.out.1⟩
  · go_wp2_with fail
    refine (spoilt_any _ _ n cap ad s w5 H5.out.2 hz5 (by have := HSZ.out; omega)).mono ?_
    rintro e w6 ⟨t, rfl, ht, g6⟩
    have hb6 : Below w.heap.size w5 w6 := below_of_grown g6 (Nat.le_refl _) (by omega)
    have H6 := hidOf8 (H5.out.1.trans hb6)
    clear g6 hb6
    go_wp2
    go_ret
    exact ⟨t, rfl, ht, H6.out⟩
end PartDSx
section PartRcP
namespace Pl
/-- What is read is what its number is written as. -/
theorem rvF_bytes (f : Nat) (pre r : List UInt8) (n k : Nat) (hp : Goes pre) (hf : pre.length + f ≤ 9) (h : rvF f pre r = some (n, k)) : pre.length < k ∧ pre ++ r.take (k - pre.length) = vb 8 n := by
  induction f generalizing pre r with
  | zero => simp [rvF] at h
  | succ f ih =>
    cases r with
    | nil => simp [rvF] at h
    | cons b r =>
      by_cases hb : b.toNat < 128
      · by_cases h2 : (b.toNat = 0 ∧ 0 < pre.length) ∨ 1000000000 < val (pre ++ [b])
        · rw [rvF_bad f pre b r hb h2] at h; cases h
        · rw [rvF_end f pre b r hb h2] at h
          simp only [Option.some.injEq, Prod.mk.injEq] at h
          obtain ⟨rfl, rfl⟩ := h
          refine ⟨by omega, ?_⟩
          have := (vb_val 8 pre b hp hb (by omega)).2 (fun h => h2 (.inl h))
          rw [this, show pre.length + 1 - pre.length = 1 by omega]
          rfl
      · rw [rvF_on f pre b r (by omega)] at h
        obtain ⟨h1, h2⟩ := ih (pre ++ [b]) r (hp.snoc (by omega)) (by simp; omega) h
        simp only [List.length_append, List.length_singleton] at h1 h2
        refine ⟨by omega, ?_⟩
        rw [← h2, show k - pre.length = (k - (pre.length + 1)) + 1 by omega, List.take_succ_cons, List.append_assoc]
        rfl
end Pl

namespace Rc
/-- A number at a place, and the place behind it. -/
def rv (L : List UInt8) (a : Nat) : Option (Nat × Nat) := (Pl.rvF 5 [] (L.drop a)).map fun r => (r.1, a + r.2)
/-- A short text at a place. -/
def rs (L : List UInt8) (a : Nat) : Option (List UInt8 × Nat) :=
  match rv L a with
  | none => none
  | some (m, k) => if m ≤ 20000 ∧ k + m ≤ L.length then some ((L.drop k).take m, k + m) else none
theorem rv_bytes {L : List UInt8} {a n k : Nat} (ha : a ≤ L.length) (h : rv L a = some (n, k)) : a < k ∧ k ≤ L.length ∧ L.take k = L.take a ++ Pl.vb 8 n ∧ n ≤ 1000000000 := by
  unfold rv at h
  obtain ⟨⟨n', j⟩, h1, h2⟩ := Option.map_eq_some_iff.1 h
  simp only [Prod.mk.injEq] at h2
  obtain ⟨rfl, rfl⟩ := h2
  obtain ⟨h3, h4⟩ := Pl.rvF_some _ _ _ _ _ h1
  obtain ⟨h5, h6⟩ := Pl.rvF_bytes 5 [] _ _ _ (fun _ h => by cases h) (by simp) h1
  simp only [List.length_nil, List.length_drop, Nat.zero_add, Nat.sub_zero, List.nil_append] at h4 h5 h6
  refine ⟨by omega, by omega, ?_, h3⟩
  rw [← h6, List.take_add]
theorem rs_bytes {L t : List UInt8} {a k : Nat} (ha : a ≤ L.length) (h : rs L a = some (t, k)) : a < k ∧ k ≤ L.length ∧ t.length ≤ 20000 ∧ L.take k = L.take a ++ (Pl.vb 8 t.length ++ t) := by
  unfold rs at h
  cases hr : rv L a with
  | none => rw [hr] at h; cases h
  | some r =>
    obtain ⟨m, j⟩ := r
    rw [hr] at h
    simp only at h
    split at h
    · rename_i hc
      simp only [Option.some.injEq, Prod.mk.injEq] at h
      obtain ⟨rfl, rfl⟩ := h
      obtain ⟨h1, h2, h3, h4⟩ := rv_bytes ha hr
      have hl : ((L.drop j).take m).length = m := by rw [List.length_take, List.length_drop]; omega
      refine ⟨by omega, by omega, by omega, ?_⟩
      rw [hl, List.take_add, h3, List.append_assoc]
    · cases h
end Rc
end PartRcP
section PartRvP
namespace Rc
theorem rv_at {L r : List UInt8} {a m : Nat} (h : L.drop a = Pl.vb 8 m ++ r) (hm : m ≤ 1000000000) : rv L a = some (m, a + (Pl.vb 8 m).length) ∧ L.drop (a + (Pl.vb 8 m).length) = r := by
  refine ⟨?_, ?_⟩
  · unfold rv
    rw [h, Pl.rv_back m r hm]
    rfl
  · rw [← List.drop_drop, h, List.drop_left]
theorem rs_at {L r : List UInt8} {t : ByteArray} {a : Nat} (h : L.drop a = Cd.short t ++ r) (ht : t.size ≤ 20000) (ha : a ≤ L.length) : rs L a = some (t.data.toList, a + (Cd.short t).length) ∧ L.drop (a + (Cd.short t).length) = r ∧ a + (Cd.short t).length ≤ L.length := by
  have hl : t.data.toList.length = t.size := by simp
  have h1 : L.drop a = Pl.vb 8 t.size ++ (t.data.toList ++ r) := by rw [h]; unfold Cd.short; rw [List.append_assoc]
  obtain ⟨e1, e2⟩ := rv_at h1 (by omega)
  have hs : (Cd.short t).length = (Pl.vb 8 t.size).length + t.size := by unfold Cd.short; rw [List.length_append, hl]
  have hd : L.drop (a + (Cd.short t).length) = r := by rw [← List.drop_drop, h, List.drop_left]
  have hlen : a + (Cd.short t).length ≤ L.length := by
    have := congrArg List.length h
    rw [List.length_drop, List.length_append] at this
    omega
  refine ⟨?_, hd, hlen⟩
  unfold rs
  rw [e1]
  simp only
  rw [if_pos ⟨ht, by omega⟩]
  have ht2 : (L.drop (a + (Pl.vb 8 t.size).length)).take t.size = t.data.toList := by rw [e2, ← hl, List.take_left]
  rw [ht2, hs, Nat.add_assoc]
end Rc
namespace Rs
/-- These are the bytes of this right store. -/
def isOf (L : List UInt8) (vs : List Vr) (cs : List Cl) (o : ByteArray) : Prop := St.ok vs cs o = true ∧ St.bytes vs cs o = L
/-- What a loop over Vars knows: n are to be read, k are read, the place is a. -/
structure V1 (L : List UInt8) (n k a : Nat) (vs : List Vr) (bad : Bool) : Prop where
  len : vs.length = k
  small : ∀ y ∈ vs, y.name.size ≤ 20000 ∧ y.val.size ≤ 20000
  le : a ≤ L.length
  good : ∀ vs0 cs0 o0, isOf L vs0 cs0 o0 → bad = false ∧ n = vs0.length ∧ k ≤ n ∧ vs = vs0.take k ∧ L.drop a = (vs0.drop k).flatMap St.vbytes ++ (Pl.vb 8 cs0.length ++ (cs0.flatMap St.cbytes ++ Cd.short o0))
theorem drop_flat {α : Type} (f : α → List UInt8) (l : List α) (d : α) (k : Nat) (h : k < l.length) : (l.drop k).flatMap f = f (l.getD k d) ++ (l.drop (k + 1)).flatMap f := by
  rw [List.drop_eq_getElem_cons h, List.flatMap_cons]
  simp [h]
theorem take_get {α : Type} (l : List α) (d : α) (k : Nat) (h : k < l.length) : l.take (k + 1) = l.take k ++ [l.getD k d] := by
  rw [List.take_add_one, List.getElem?_eq_getElem h]
  simp [h]
/-- The first number. -/
theorem V1.start {L : List UInt8} {n a : Nat} {bad : Bool} (ha : a ≤ L.length) (h1 : bad = false → Rc.rv L 0 = some (n, a)) (h2 : bad = true → Rc.rv L 0 = none) : V1 L n 0 a [] bad := by
  refine ⟨rfl, (fun y hy => by cases hy), ha, fun vs0 cs0 o0 h => ?_⟩
  obtain ⟨s1, s2, s3, s4, s5⟩ := St.ok_sizes h.1
  have hd : L.drop 0 = Pl.vb 8 vs0.length ++ (vs0.flatMap St.vbytes ++ (Pl.vb 8 cs0.length ++ (cs0.flatMap St.cbytes ++ Cd.short o0))) := by
    rw [← h.2]; unfold St.bytes; simp only [List.drop_zero, List.append_assoc]
  obtain ⟨e1, e2⟩ := Rc.rv_at hd (by omega)
  cases bad with
  | true => rw [h2 rfl] at e1; cases e1
  | false =>
    rw [h1 rfl] at e1
    simp only [Option.some.injEq, Prod.mk.injEq] at e1
    obtain ⟨rfl, rfl⟩ := e1
    exact ⟨rfl, rfl, Nat.zero_le _, rfl, e2⟩
/-- One more. -/
theorem V1.next {L : List UInt8} {n k a a1 a2 : Nat} {vs : List Vr} {b1 b2 : Bool} {t1 t2 : List UInt8} (h : V1 L n k a vs false) (hk : k < n) (ha : a2 ≤ L.length) (l1 : t1.length ≤ 20000) (l2 : t2.length ≤ 20000)
    (h1 : b1 = false → Rc.rs L a = some (t1, a1)) (h2 : b1 = true → Rc.rs L a = none)
    (h3 : b2 = false → b1 = false ∧ Rc.rs L a1 = some (t2, a2)) (h4 : b2 = true → b1 = true ∨ Rc.rs L a1 = none) :
    V1 L n (k + 1) a2 (vs ++ [⟨⟨t1.toArray⟩, ⟨t2.toArray⟩⟩]) b2 := by
  have z : ∀ l : List UInt8, (⟨l.toArray⟩ : ByteArray).size = l.length := fun l => by show l.toArray.size = _; simp
  refine ⟨by rw [List.length_append, h.len]; rfl, fun y hy => ?_, ha, fun vs0 cs0 o0 hi => ?_⟩
  · rcases List.mem_append.1 hy with hy | hy
    · exact h.small y hy
    · simp only [List.mem_singleton] at hy
      subst hy
      exact ⟨by rw [z]; exact l1, by rw [z]; exact l2⟩
  · obtain ⟨-, hn, -, hv, hd⟩ := h.good vs0 cs0 o0 hi
    obtain ⟨s1, s2, s3, s4, s5⟩ := St.ok_sizes hi.1
    have hk0 : k < vs0.length := by omega
    obtain ⟨q1, q2⟩ := s4 k hk0
    rw [drop_flat St.vbytes vs0 Vr.no k hk0] at hd
    have hd1 : L.drop a = Cd.short (vs0.getD k Vr.no).name ++ (Cd.short (vs0.getD k Vr.no).val ++ ((vs0.drop (k + 1)).flatMap St.vbytes ++ (Pl.vb 8 cs0.length ++ (cs0.flatMap St.cbytes ++ Cd.short o0)))) := by
      rw [hd]; unfold St.vbytes; simp only [List.append_assoc]
    obtain ⟨e1, e2, e3⟩ := Rc.rs_at hd1 (by omega) h.le
    cases b1 with
    | true => rw [h2 rfl] at e1; cases e1
    | false =>
      rw [h1 rfl] at e1
      simp only [Option.some.injEq, Prod.mk.injEq] at e1
      obtain ⟨rfl, rfl⟩ := e1
      obtain ⟨f1, f2, -⟩ := Rc.rs_at e2 (by omega) e3
      cases b2 with
      | true => rcases h4 rfl with h | h; cases h; rw [h] at f1; cases f1
      | false =>
        rw [(h3 rfl).2] at f1
        simp only [Option.some.injEq, Prod.mk.injEq] at f1
        obtain ⟨rfl, rfl⟩ := f1
        refine ⟨rfl, hn, by omega, ?_, f2⟩
        rw [take_get vs0 Vr.no k hk0, ← hv]
/-- What a loop over Cells knows. -/
structure V2 (L : List UInt8) (vs : List Vr) (n k a : Nat) (cs : List Cl) (bad : Bool) : Prop where
  len : cs.length = k
  small : ∀ y ∈ cs, y.name.size ≤ 20000 ∧ y.key.size ≤ 20000 ∧ y.val.size ≤ 20000
  le : a ≤ L.length
  good : ∀ vs0 cs0 o0, isOf L vs0 cs0 o0 → bad = false ∧ vs = vs0 ∧ n = cs0.length ∧ k ≤ n ∧ cs = cs0.take k ∧ L.drop a = (cs0.drop k).flatMap St.cbytes ++ Cd.short o0
/-- The second number: the Vars are through, where some right store is read. -/
theorem V1.turn {L : List UInt8} {n k a n2 a2 : Nat} {vs : List Vr} {bad b2 : Bool} (h : V1 L n k a vs bad) (hx : bad = false → n ≤ 60 → n ≤ k) (ha : a2 ≤ L.length)
    (h1 : b2 = false → bad = false ∧ Rc.rv L a = some (n2, a2)) (h2 : b2 = true → bad = true ∨ Rc.rv L a = none) : V2 L vs n2 0 a2 [] b2 := by
  refine ⟨rfl, (fun y hy => by cases hy), ha, fun vs0 cs0 o0 hi => ?_⟩
  obtain ⟨hb, hn, hk, hv, hd⟩ := h.good vs0 cs0 o0 hi
  obtain ⟨s1, s2, s3, s4, s5⟩ := St.ok_sizes hi.1
  have hkn : k = vs0.length := by have := hx hb (by omega); omega
  rw [hkn, List.take_length] at hv
  rw [hkn, List.drop_length, List.flatMap_nil, List.nil_append] at hd
  obtain ⟨e1, e2⟩ := Rc.rv_at hd (by omega)
  cases b2 with
  | true =>
    rcases h2 rfl with h | h
    · rw [hb] at h; cases h
    · rw [h] at e1; cases e1
  | false =>
    rw [(h1 rfl).2] at e1
    simp only [Option.some.injEq, Prod.mk.injEq] at e1
    obtain ⟨rfl, rfl⟩ := e1
    exact ⟨rfl, hv, rfl, Nat.zero_le _, rfl, e2⟩
/-- One more. -/
theorem V2.next {L : List UInt8} {vs : List Vr} {n k a a1 a2 a3 : Nat} {cs : List Cl} {b1 b2 b3 : Bool} {t1 t2 t3 : List UInt8} (h : V2 L vs n k a cs false) (hk : k < n) (ha : a3 ≤ L.length) (l1 : t1.length ≤ 20000) (l2 : t2.length ≤ 20000) (l3 : t3.length ≤ 20000)
    (h1 : b1 = false → Rc.rs L a = some (t1, a1)) (h2 : b1 = true → Rc.rs L a = none)
    (h3 : b2 = false → b1 = false ∧ Rc.rs L a1 = some (t2, a2)) (h4 : b2 = true → b1 = true ∨ Rc.rs L a1 = none)
    (h5 : b3 = false → b2 = false ∧ Rc.rs L a2 = some (t3, a3)) (h6 : b3 = true → b2 = true ∨ Rc.rs L a2 = none) :
    V2 L vs n (k + 1) a3 (cs ++ [⟨⟨t1.toArray⟩, ⟨t2.toArray⟩, ⟨t3.toArray⟩⟩]) b3 := by
  have z : ∀ l : List UInt8, (⟨l.toArray⟩ : ByteArray).size = l.length := fun l => by show l.toArray.size = _; simp
  refine ⟨by rw [List.length_append, h.len]; rfl, fun y hy => ?_, ha, fun vs0 cs0 o0 hi => ?_⟩
  · rcases List.mem_append.1 hy with hy | hy
    · exact h.small y hy
    · simp only [List.mem_singleton] at hy
      subst hy
      exact ⟨by rw [z]; exact l1, by rw [z]; exact l2, by rw [z]; exact l3⟩
  · obtain ⟨-, hvs, hn, -, hv, hd⟩ := h.good vs0 cs0 o0 hi
    obtain ⟨s1, s2, s3, s4, s5⟩ := St.ok_sizes hi.1
    have hk0 : k < cs0.length := by omega
    obtain ⟨q1, q2, q3⟩ := s5 k hk0
    rw [drop_flat St.cbytes cs0 Cl.no k hk0] at hd
    have hd1 : L.drop a = Cd.short (cs0.getD k Cl.no).name ++ (Cd.short (cs0.getD k Cl.no).key ++ (Cd.short (cs0.getD k Cl.no).val ++ ((cs0.drop (k + 1)).flatMap St.cbytes ++ Cd.short o0))) := by
      rw [hd]; unfold St.cbytes; simp only [List.append_assoc]
    obtain ⟨e1, e2, e3⟩ := Rc.rs_at hd1 (by omega) h.le
    cases b1 with
    | true => rw [h2 rfl] at e1; cases e1
    | false =>
      rw [h1 rfl] at e1
      simp only [Option.some.injEq, Prod.mk.injEq] at e1
      obtain ⟨rfl, rfl⟩ := e1
      obtain ⟨f1, f2, f3⟩ := Rc.rs_at e2 (by omega) e3
      cases b2 with
      | true => rcases h4 rfl with h | h; cases h; rw [h] at f1; cases f1
      | false =>
        rw [(h3 rfl).2] at f1
        simp only [Option.some.injEq, Prod.mk.injEq] at f1
        obtain ⟨rfl, rfl⟩ := f1
        obtain ⟨g1, g2, -⟩ := Rc.rs_at f2 (by omega) f3
        cases b3 with
        | true => rcases h6 rfl with h | h; cases h; rw [h] at g1; cases g1
        | false =>
          rw [(h5 rfl).2] at g1
          simp only [Option.some.injEq, Prod.mk.injEq] at g1
          obtain ⟨rfl, rfl⟩ := g1
          refine ⟨rfl, hvs, hn, by omega, ?_, g2⟩
          rw [take_get cs0 Cl.no k hk0, ← hv]
/-- The last text. -/
theorem V2.last {L : List UInt8} {vs : List Vr} {n k a a2 : Nat} {cs : List Cl} {bad b2 : Bool} {t : List UInt8} (h : V2 L vs n k a cs bad) (hx : bad = false → n ≤ 2000 → n ≤ k)
    (h1 : b2 = false → bad = false ∧ Rc.rs L a = some (t, a2)) (h2 : b2 = true → bad = true ∨ Rc.rs L a = none) :
    ∀ vs0 cs0 o0, isOf L vs0 cs0 o0 → b2 = false ∧ vs = vs0 ∧ cs = cs0 ∧ ⟨t.toArray⟩ = o0 := by
  intro vs0 cs0 o0 hi
  obtain ⟨hb, hvs, hn, hk, hv, hd⟩ := h.good vs0 cs0 o0 hi
  obtain ⟨s1, s2, s3, s4, s5⟩ := St.ok_sizes hi.1
  have hkn : k = cs0.length := by have := hx hb (by omega); omega
  rw [hkn, List.take_length] at hv
  rw [hkn, List.drop_length, List.flatMap_nil, List.nil_append] at hd
  have hd' : L.drop a = Cd.short o0 ++ [] := by rw [hd, List.append_nil]
  obtain ⟨e1, e2, -⟩ := Rc.rs_at hd' (by omega) h.le
  cases b2 with
  | true =>
    rcases h2 rfl with h | h
    · rw [hb] at h; cases h
    · rw [h] at e1; cases e1
  | false =>
    rw [(h1 rfl).2] at e1
    simp only [Option.some.injEq, Prod.mk.injEq] at e1
    obtain ⟨rfl, -⟩ := e1
    exact ⟨rfl, hvs, hv, rfl⟩
theorem small_of {vs : List Vr} {cs : List Cl} {o : ByteArray} (hv : vs.length ≤ 1048576) (hc : cs.length ≤ 1048576) (h1 : ∀ y ∈ vs, y.name.size ≤ 20000 ∧ y.val.size ≤ 20000) (h2 : ∀ y ∈ cs, y.name.size ≤ 20000 ∧ y.key.size ≤ 20000 ∧ y.val.size ≤ 20000) (ho : o.size ≤ 20000) : StSmall vs cs o := by
  refine ⟨hv, fun i hi => ?_, hc, fun i hi => ?_, by omega⟩
  · rw [show vs.getD i Vr.no = vs[i] by simp [hi]]
    have := h1 vs[i] (List.getElem_mem hi)
    omega
  · rw [show cs.getD i Cl.no = cs[i] by simp [hi]]
    have := h2 cs[i] (List.getElem_mem hi)
    omega
end Rs
end PartRvP
end Go.Proofs.Ytmofljfffcnlbaa
