/- The program's reader of a pattern: a thing with its signs behind it. The program's reader of a pattern: one thing behind the other, and alternatives. What ReadPattern of the program answers, at every text. The program's CodeOk: what an instruction takes and puts, its arg, where it goes on. -/
import Derived.Test.YtehagonaacbmiaaGreatMPRjZau
import Derived.Test.YtehagonaacbmiaaGreatMPRjZae
import Derived.Test.YtehagonaacbmiaaGreatMPRjZag
import Derived.Test.YtehagonaacbmiaaGreatMPRjCdA
namespace Go.Proofs.YtehagonaacbmiaaGreat
section PartRiE
open Go.RowKit

/-- How much is left to read, as the world holds it. -/
def leftI (g : Nat) (ok : Value) (w : World) : Nat := match ok with
  | .bool true => (match w.cell? ⟨g, 0, none⟩ with
    | some (.string x) => x.size + 1
    | _ => 0)
  | _ => 0
theorem Ri.left {w : World} {g a : Nat} {l : List UInt8} {v : Value} (h : Ri w g l a v) : leftI g (.bool true) w = l.length - a + 1 := by
  obtain ⟨c0, _⟩ := cells2 h
  unfold leftI
  rw [c0]
  show (tx (l.drop a)).size + 1 = _
  rw [tx_size]
  simp
/-- Where the program's reader stands in the midst of a part: R is what the part should tell in the end. -/
def MidI (B g N : Nat) (l : List UInt8) (w wr : World) (k ok : Value) (R : Option (Nat × List Pp.Pc × Nat)) (F : Nat → Nat → List Pp.Pc → Nat → Option (Nat × List Pp.Pc × Nat)) (c f M : Nat) : Prop :=
  FB g B w wr ∧ ((∃ (z : Int) (a' : Nat) (v' : Value) (n' : Nat) (cs' : List Value), k = .int .i64 z ∧ ok = .bool false ∧ Ri wr g l a' v' ∧ PR B wr v' n' cs' ∧ n' ≤ N ∧ R = none) ∨
    (∃ (j a' fm : Nat) (v' : Value) (o : List Pp.Pc), k = .int .i64 (j : Int) ∧ ok = .bool true ∧ a' ≤ l.length ∧ Ri wr g l a' v' ∧ RP B wr v' o ∧ o.length + 2 * (l.length - a') ≤ M ∧ F fm a' o j = R ∧ 4 * (l.length - a') + c ≤ fm ∧ fm ≤ f))

theorem MidI.of {B g N c f M : Nat} {l : List UInt8} {w w' : World} {R : Option (Nat × List Pp.Pc × Nat)} {F : Nat → Nat → List Pp.Pc → Nat → Option (Nat × List Pp.Pc × Nat)} {e : Ending} (h : RiPost B g l w N R e w')
    (hd : ∀ a' o k, R = some (a', o, k) → a' ≤ l.length ∧ o.length + 2 * (l.length - a') ≤ M ∧ 4 * (l.length - a') + c ≤ f) :
    ∃ k ok, e = .returned (.tuple #[k, ok]) ∧ MidI B g N l w w' k ok (R.bind fun r => F f r.1 r.2.1 r.2.2) F c f M := by
  obtain ⟨hf, h⟩ := h
  cases R with
  | none =>
    obtain ⟨z, a', v', n', cs', rfl, h1, h2, h3⟩ := h
    exact ⟨_, _, rfl, hf, .inl ⟨z, a', v', n', cs', rfl, rfl, h1, h2, h3, rfl⟩⟩
  | some r =>
    obtain ⟨a', o, j⟩ := r
    obtain ⟨rfl, v', h3, h4⟩ := h
    obtain ⟨d1, d2, d3⟩ := hd a' o j rfl
    exact ⟨_, _, rfl, hf, .inr ⟨j, a', f, v', o, rfl, rfl, d1, h3, h4, d2, rfl, d3, Nat.le_refl _⟩⟩
theorem MidI.form {B g N c f M : Nat} {l : List UInt8} {w wr : World} {k ok : Value} {R : Option (Nat × List Pp.Pc × Nat)} {F : Nat → Nat → List Pp.Pc → Nat → Option (Nat × List Pp.Pc × Nat)} (h : MidI B g N l w wr k ok R F c f M) : ∃ (z : Int) (b : Bool), k = .int .i64 z ∧ ok = .bool b := by
  rcases h.2 with ⟨z, _, _, _, _, rfl, rfl, _⟩ | ⟨j, _, _, _, _, rfl, rfl, _⟩
  · exact ⟨z, false, rfl, rfl⟩
  · exact ⟨j, true, rfl, rfl⟩

set_option maxRecDepth 100000 in
set_option maxHeartbeats 400000 in
theorem rep42 (w : World) : Calls Tryz.prog 136 #[.string ⟨#[42]⟩] w fun e w' => e = .returned (.int .i64 7) ∧ w' = w := by
  go_enter Tryz.func136, Tryz.ntmps136
  go_wp2
  go_ret
  exact ⟨rfl, rfl⟩
set_option maxRecDepth 100000 in
set_option maxHeartbeats 400000 in
theorem rep43 (w : World) : Calls Tryz.prog 136 #[.string ⟨#[43]⟩] w fun e w' => e = .returned (.int .i64 8) ∧ w' = w := by
  go_enter Tryz.func136, Tryz.ntmps136
  go_wp2
  go_ret
  exact ⟨rfl, rfl⟩
set_option maxRecDepth 100000 in
set_option maxHeartbeats 400000 in
theorem rep63 (w : World) : Calls Tryz.prog 136 #[.string ⟨#[63]⟩] w fun e w' => e = .returned (.int .i64 9) ∧ w' = w := by
  go_enter Tryz.func136, Tryz.ntmps136
  go_wp2
  go_ret
  exact ⟨rfl, rfl⟩

theorem more_endI (l : List UInt8) (f a : Nat) (ps : List Pp.Pc) (k : Nat) (h : ∀ b, l[a]? = some b → b ∉ ([42, 43, 63] : List UInt8)) : Pp.more l (f + 1) a ps k = some (a, ps, k) := by
  rw [Pp.more]
  cases hb : l[a]? with
  | none => rfl
  | some b =>
    have := h b hb
    have h2 : ¬ (b = 42 ∨ b = 43 ∨ b = 63) := by simpa using this
    simp only [h2, ↓reduceIte]
theorem more_goI (l : List UInt8) (f a : Nat) (ps : List Pp.Pc) (k op : Nat) (b : UInt8) (hb : l[a]? = some b) (h : b = 42 ∧ op = 7 ∨ b = 43 ∧ op = 8 ∨ b = 63 ∧ op = 9) (hn : ps.length ≤ 59) : Pp.more l (f + 1) a ps k = Pp.more l f (a + 1) (ps ++ [⟨op, [], [k]⟩]) ps.length := by
  rw [Pp.more, hb]
  rcases h with ⟨rfl, rfl⟩ | ⟨rfl, rfl⟩ | ⟨rfl, rfl⟩
  · show (match Pp.put ps ⟨7, [], [k]⟩ with | none => none | some (o, j) => Pp.more l f (a + 1) o j) = _
    rw [put_ok hn]
  · show (match Pp.put ps ⟨8, [], [k]⟩ with | none => none | some (o, j) => Pp.more l f (a + 1) o j) = _
    rw [put_ok hn]
  · show (match Pp.put ps ⟨9, [], [k]⟩ with | none => none | some (o, j) => Pp.more l f (a + 1) o j) = _
    rw [put_ok hn]

set_option maxHeartbeats 2000000 in
set_option maxRecDepth 100000 in
theorem riMany (B g : Nat) (l : List UInt8) (f : Nat) (hg : g < B) (a : Nat) (ps : List Pp.Pc) (w : World)
    (hT : Calls Tryz.prog 135 #[.pointer (some ⟨g, 0, none⟩)] w (RiPost B g l w (100 + f) (Pp.thing l f a ps)))
    (hB : B ≤ w.heap.size) (hn : ps.length + 2 * (l.length - a) ≤ 50) (hd : 4 * (l.length - a) + 2 ≤ f + 1) :
    Calls Tryz.prog 132 #[.pointer (some ⟨g, 0, none⟩)] w (RiPost B g l w (100 + (f + 1)) (Pp.many l (f + 1) a ps)) := by
  have HT : Hid (Calls Tryz.prog 135 #[.pointer (some ⟨g, 0, none⟩)] w (RiPost B g l w (100 + f) (Pp.thing l f a ps))) := hT
  obtain ⟨R, hR⟩ : ∃ R, R = Pp.many l (f + 1) a ps := ⟨_, rfl⟩
  rw [← hR]
  have HR : Hid (R = (Pp.thing l f a ps).bind fun r => Pp.more l f r.1 r.2.1 r.2.2) := by
    show _ = _
    rw [hR, Pp.many]
    cases Pp.thing l f a ps <;> rfl
  clear hT hR
  go_enter Tryz.func132, Tryz.ntmps132
  go_wp2_with fail
  refine HT.out.mono ?_
  intro e w1 hpost
  obtain ⟨k1, ok1, rfl, hmid⟩ := MidI.of (F := Pp.more l) (c := 1) (f := f) (M := 51) hpost (fun a' o k e1 => by have := (Pp.bd l f).thing a ps a' o k e1; omega)
  rw [← HR.out] at hmid
  have HMID : Hid (MidI B g (100 + f) l w w1 k1 ok1 R (Pp.more l) 1 f 51) := hmid
  obtain ⟨z1, b1, rfl, rfl⟩ := hmid.form
  clear hmid hpost HT HR
  cases b1 with
  | false =>
    rcases HMID.out with ⟨hfb, ⟨z, a', v', n', cs', hz, _, r', p', hn', hRn⟩ | ⟨j, a', fm, v', o, _, hok, _⟩⟩
    · have HRN : Hid (R = none) := hRn
      have HFB : Hid (FB g B w w1) := hfb
      clear hRn hfb HMID hz
      go_wp2_with fail
      refine wp_loop_rounds 1 ?_
      rw [rounds_succ]
      go_wp2
      (try simp only [Exit.inBlock, Exit.then])
      refine bodyPost_ret (results_tmp2 rfl _ _ _) rfl ?_
      rw [HRN.out]
      exact ⟨HFB.out, z1, a', v', n', cs', rfl, r', p', by omega⟩
    · cases hok
  | true =>
  go_wp2_with fail
  go_loopw [4] (fun k wr => Hid (MidI B g (100 + f) l w wr k (.bool true) R (Pp.more l) 1 f 51)) (fun _ wr => leftI g (.bool true) wr)
  case atStart => exact HMID.out
  case round =>
    clear HMID
    obtain ⟨hfb, hm⟩ := hrel.out
    clear hrel
    have HFB : Hid (FB g B w wr) := hfb
    have hBr : B ≤ wr.heap.size := by have := hfb.1; omega
    clear hfb
    rcases hm with ⟨z, a', v', n', cs', _, hok, _⟩ | ⟨j, a', fm, v', o, rfl, _, ha', r', p', ho, hRe, hfm, hfm2⟩
    · cases hok
    · obtain ⟨fm, rfl⟩ : ∃ fm', fm = fm' + 1 := ⟨fm - 1, by omega⟩
      have HP' : Hid (RP B wr v' o) := p'
      have hlf := r'.left
      clear p'
      by_cases hq : ∃ b, l[a']? = some b ∧ b ∈ ([42, 43, 63] : List UInt8)
      · obtain ⟨b, hb, hmem⟩ := hq
        have hlt := Pp.lt_of_get hb
        have CN : Hid (Calls Tryz.prog 126 #[.pointer (some ⟨g, 0, none⟩), .string ⟨#[42, 43, 63]⟩] wr fun e w' => e = .returned (.bool true) ∧ w' = wr) := nextYes g a' l [42, 43, 63] b v' wr r' hb hmem
        have CT : Hid (Calls Tryz.prog 127 #[.pointer (some ⟨g, 0, none⟩)] wr fun e w' => e = .returned (.string (tx [b])) ∧ Ri w' g l (a' + 1) v' ∧ (∃ u, w' = wr.setCell ⟨g, 0, none⟩ u)) := take_any g a' l b v' wr r' hb
        obtain ⟨op, hop, CR⟩ : ∃ op : Nat, (b = 42 ∧ op = 7 ∨ b = 43 ∧ op = 8 ∨ b = 63 ∧ op = 9) ∧ Hid (∀ w0 : World, Calls Tryz.prog 136 #[.string (tx [b])] w0 fun e w' => e = .returned (.int .i64 (op : Int)) ∧ w' = w0) := by
          simp only [List.mem_cons, List.not_mem_nil, or_false] at hmem
          rcases hmem with rfl | rfl | rfl
          · exact ⟨7, .inl ⟨rfl, rfl⟩, fun w0 => rep42 w0⟩
          · exact ⟨8, .inr (.inl ⟨rfl, rfl⟩), fun w0 => rep43 w0⟩
          · exact ⟨9, .inr (.inr ⟨rfl, rfl⟩), fun w0 => rep63 w0⟩
        have HPUT : Hid (Pp.more l fm (a' + 1) (o ++ [⟨op, [], [j]⟩]) o.length = R) := by
          show _ = _
          rw [← hRe, more_goI l fm a' o j op b hb hop (by omega)]
        clear hRe hmem hop hb
        go_wp2_with fail
        refine CN.out.mono ?_
        rintro e w0 ⟨rfl, hw0⟩
        rw [hw0]
        clear hw0
        go_wp2_with fail
        refine CT.out.mono ?_
        rintro e w2 ⟨rfl, r2, u, rfl⟩
        go_wp2_with fail
        refine (CR.out _).mono ?_
        rintro e w3 ⟨rfl, rfl⟩
        go_wp2_with fail
        refine (riAdd1 B g (a' + 1) op j _ l v' o _ r2 (HP'.out.setg hg 0 u) hg (by simpa [World.setCell] using hBr) (by omega) (by simp [World.setCell])).mono ?_
        rintro e w4 ⟨rfl, hfb4, v4, r4, p4⟩
        have hlf4 := r4.left
        have HMID : Hid (MidI B g (100 + f) l w w4 (.int .i64 (o.length : Int)) (.bool true) R (Pp.more l) 1 f 51) := ⟨(HFB.out.setg 0 u).trans hfb4, .inr ⟨o.length, a' + 1, fm, v4, _, rfl, rfl, by omega, r4, p4, by simp; omega, HPUT.out, by omega, by omega⟩⟩
        clear r4 p4 hfb4 r2 CN CT CR
        go_wp2_with fail
        go_roundw
        case rel => exact HMID.out
        case measure => omega
      · have HRS : Hid (R = some (a', o, j)) := by
          show _ = _
          rw [← hRe]
          exact more_endI l fm a' o j (fun b hb hm => hq ⟨b, hb, hm⟩)
        have CN : Hid (Calls Tryz.prog 126 #[.pointer (some ⟨g, 0, none⟩), .string ⟨#[42, 43, 63]⟩] wr fun e w' => e = .returned (.bool false) ∧ w' = wr) := nextNo g a' l [42, 43, 63] v' wr r' (fun b hb hm => hq ⟨b, hb, hm⟩)
        clear hRe hq
        go_wp2_with fail
        refine CN.out.mono ?_
        rintro e w0 ⟨rfl, hw0⟩
        rw [hw0]
        clear hw0
        go_wp2
        (try simp only [Exit.inBlock, Exit.then])
        refine bodyPost_ret (results_tmp2 rfl _ _ _) rfl ?_
        rw [HRS.out]
        exact ⟨HFB.out, rfl, v', r', HP'.out⟩
end PartRiE
section PartRiF
open Go.RowKit

/-- Does the row end here? -/
def ends (l : List UInt8) (a : Nat) : Prop := l[a]? = none ∨ l[a]? = some 124 ∨ l[a]? = some 41

set_option maxRecDepth 100000 in
set_option maxHeartbeats 400000 in
theorem rowEndsYes (g a : Nat) (l : List UInt8) (v : Value) (w : World) (h : Ri w g l a v) (he : ends l a) :
    Calls Tryz.prog 131 #[.pointer (some ⟨g, 0, none⟩)] w fun e w' => e = .returned (.bool true) ∧ w' = w := by
  have h' := h
  unfold Ri at h'
  cases hb : l[a]? with
  | none =>
    have hd : l.drop a = [] := List.drop_of_length_le (by have := List.getElem?_eq_none_iff.1 hb; exact this)
    rw [hd] at h'
    obtain ⟨c0, c1, f0, f1⟩ := cells2 h'
    clear h h' hb he hd
    go_enter Tryz.func131, Tryz.ntmps131
    go_wp2
    go_ret
    exact ⟨rfl, rfl⟩
  | some b =>
    have CN : Hid (Calls Tryz.prog 126 #[.pointer (some ⟨g, 0, none⟩), .string ⟨#[124, 41]⟩] w fun e w' => e = .returned (.bool true) ∧ w' = w) := nextYes g a l [124, 41] b v w h hb (by rcases he with e | e | e <;> rw [hb] at e <;> simp_all)
    rw [drop_at l a b hb] at h'
    obtain ⟨c0, c1, f0, f1⟩ := cells2 h'
    obtain ⟨x, hx⟩ : ∃ x, x = tx (b :: l.drop (a + 1)) := ⟨_, rfl⟩
    have c0' : w.cell? ⟨g, 0, none⟩ = some (.string x) := by rw [hx]; exact c0
    have hem' : x.toList.isEmpty = false := by rw [hx, tx_empty]; rfl
    clear hx h h' hb he c0 f0 f1
    go_enter Tryz.func131, Tryz.ntmps131
    go_wp2_with fail
    refine CN.out.mono ?_
    rintro e w0 ⟨rfl, hw0⟩
    rw [hw0]
    clear hw0
    go_wp2
    go_ret
    exact ⟨rfl, rfl⟩
set_option maxRecDepth 100000 in
set_option maxHeartbeats 400000 in
theorem rowEndsNo (g a : Nat) (l : List UInt8) (v : Value) (w : World) (h : Ri w g l a v) (he : ¬ ends l a) :
    Calls Tryz.prog 131 #[.pointer (some ⟨g, 0, none⟩)] w fun e w' => e = .returned (.bool false) ∧ w' = w := by
  have h' := h
  unfold Ri at h'
  cases hb : l[a]? with
  | none => exact absurd (.inl hb) he
  | some b =>
    have CN : Hid (Calls Tryz.prog 126 #[.pointer (some ⟨g, 0, none⟩), .string ⟨#[124, 41]⟩] w fun e w' => e = .returned (.bool false) ∧ w' = w) := nextNo g a l [124, 41] v w h (fun c hc hm => he (by
      simp only [List.mem_cons, List.not_mem_nil, or_false] at hm
      rcases hm with rfl | rfl
      · exact .inr (.inl hc)
      · exact .inr (.inr hc)))
    rw [drop_at l a b hb] at h'
    obtain ⟨c0, c1, f0, f1⟩ := cells2 h'
    obtain ⟨x, hx⟩ : ∃ x, x = tx (b :: l.drop (a + 1)) := ⟨_, rfl⟩
    have c0' : w.cell? ⟨g, 0, none⟩ = some (.string x) := by rw [hx]; exact c0
    have hem' : x.toList.isEmpty = false := by rw [hx, tx_empty]; rfl
    clear hx h h' hb he c0 f0 f1
    go_enter Tryz.func131, Tryz.ntmps131
    go_wp2_with fail
    refine CN.out.mono ?_
    rintro e w0 ⟨rfl, hw0⟩
    rw [hw0]
    clear hw0
    go_wp2
    go_ret
    exact ⟨rfl, rfl⟩

theorem rest_endI (l : List UInt8) (f a : Nat) (ps : List Pp.Pc) (k : Nat) (h : ends l a) : Pp.rest l (f + 1) a ps k = some (a, ps, k) := by
  rw [Pp.rest]
  cases hb : l[a]? with
  | none => rfl
  | some b =>
    have hc : b = 124 ∨ b = 41 := by
      unfold ends at h
      rw [hb] at h
      simpa using h
    simp only [hc, ↓reduceIte]
theorem rest_goI (l : List UInt8) (f a : Nat) (ps : List Pp.Pc) (k : Nat) (h : ¬ ends l a) : Pp.rest l (f + 1) a ps k = match Pp.many l f a ps with
    | none => none
    | some (e, o, j) => (Pp.put o ⟨5, [], [k, j]⟩).bind fun r => Pp.rest l f e r.1 r.2 := by
  rw [Pp.rest]
  cases hb : l[a]? with
  | none => exact absurd (.inl hb) h
  | some b =>
    have hc : ¬ (b = 124 ∨ b = 41) := by
      intro hbb
      apply h
      rcases hbb with rfl | rfl
      · exact .inr (.inl hb)
      · exact .inr (.inr hb)
    simp only [hc, ↓reduceIte]
    cases Pp.many l f a ps with
    | none => rfl
    | some r =>
      obtain ⟨e, o, j⟩ := r
      show (match Pp.put o ⟨5, [], [k, j]⟩ with | none => none | some (o2, k2) => _) = (Pp.put o ⟨5, [], [k, j]⟩).bind fun r => Pp.rest l f e r.1 r.2
      cases Pp.put o ⟨5, [], [k, j]⟩ <;> rfl
set_option maxRecDepth 100000 in
theorem alts_goI (l : List UInt8) (f a : Nat) (ps : List Pp.Pc) (k : Nat) (h : l[a]? = some 124) : Pp.alts l (f + 1) a ps k = match Pp.row l f (a + 1) ps with
    | none => none
    | some (e, o, j) => (Pp.put o ⟨6, [], [k, j]⟩).bind fun r => Pp.alts l f e r.1 r.2 := by
  rw [Pp.alts, if_pos h]
  cases Pp.row l f (a + 1) ps with
  | none => rfl
  | some r =>
    obtain ⟨e, o, j⟩ := r
    show (match Pp.put o ⟨6, [], [k, j]⟩ with | none => none | some (o2, k2) => _) = (Pp.put o ⟨6, [], [k, j]⟩).bind fun r => Pp.alts l f e r.1 r.2
    cases Pp.put o ⟨6, [], [k, j]⟩ <;> rfl

/-- What repeated promises. -/
def ManyI (B g : Nat) (l : List UInt8) (f : Nat) : Prop :=
  ∀ (a : Nat) (v : Value) (ps : List Pp.Pc) (w : World), Ri w g l a v → RP B w v ps → B ≤ w.heap.size → a < l.length → ps.length + 2 * (l.length - a) ≤ 50 → 4 * (l.length - a) + 2 ≤ f →
    Calls Tryz.prog 132 #[.pointer (some ⟨g, 0, none⟩)] w (RiPost B g l w (100 + f) (Pp.many l f a ps))

set_option maxRecDepth 100000 in
/-- What is put behind a fault. -/
theorem riAddBad (B g a op n : Nat) (l : List UInt8) (v : Value) (cs : List Value) (z z2 : Int) (q : Nat) (w : World) (h : Ri w g l a v) (hp : PR B w v n cs) (hg : g < B) (hB : B ≤ w.heap.size) (hn : n ≤ 1000) :
    Calls Tryz.prog 128 #[.pointer (some ⟨g, 0, none⟩), .int .i64 (op : Int), .string ⟨#[]⟩, .slice (some ⟨q, 0, none⟩) 2 2] (w.alloc (.cells #[.int .i64 z, .int .i64 z2] 3)) fun e w' => e = .returned (.int .i64 (n : Int)) ∧ FB g B w w' ∧ ∃ v' cs', Ri w' g l a v' ∧ PR B w' v' (n + 1) cs' := by
  have hb : Below w.heap.size w (w.alloc (.cells #[.int .i64 z, .int .i64 z2] 3)) := (Below.refl _ _).alloc (Nat.le_refl _) _
  have hp' : PR B (w.alloc (.cells #[.int .i64 z, .int .i64 z2] 3)) v n cs := hp.keep fun q e => hb.block q (World.ownsRow.lt hp q e).2
  refine (riAdd_any B g a n op l ⟨#[]⟩ v cs (some ⟨q, 0, none⟩) 2 2 _ (h.up hb) hp' hn hg (by simp; omega) (by show (0 : Nat) ≤ 100; omega)).mono ?_
  rintro e w' ⟨v', rfl, hR, hP, hs, hf, _, hen⟩
  exact ⟨rfl, (FB.of (hb.mono hB)).trans (FB.fr ⟨hs, hf, hen⟩ hp' (by simp; omega)), v', _, hR, hP⟩

set_option maxHeartbeats 4000000 in
set_option maxRecDepth 100000 in
theorem riRow (B g : Nat) (l : List UInt8) (f : Nat) (hg : g < B) (hf : f ≤ 200) (hM : ∀ f', f' ≤ f → ManyI B g l f') : RiC B g l 125 (Pp.row l) 3 (f + 1) := by
  intro a v ps w h hr hB ha hn hd
  have HM : Hid (∀ f', f' ≤ f → ManyI B g l f') := hM
  have HP0 : Hid (RP B w v ps) := hr
  obtain ⟨R, hR⟩ : ∃ R, R = Pp.row l (f + 1) a ps := ⟨_, rfl⟩
  rw [← hR]
  clear hM hr
  by_cases hst : ends l a
  · have HRE : Hid (R = some (a, ps ++ [⟨12, [], []⟩], ps.length)) := by
      show _ = _
      rw [hR, Pp.row, if_pos (show l[a]? = none ∨ l[a]? = some 124 ∨ l[a]? = some 41 from hst), put_ok (by omega)]
      rfl
    have CE : Hid (Calls Tryz.prog 131 #[.pointer (some ⟨g, 0, none⟩)] w fun e w' => e = .returned (.bool true) ∧ w' = w) := rowEndsYes g a l v w h hst
    clear hR hst HM
    go_enter Tryz.func125, Tryz.ntmps125
    go_wp2_with fail
    refine CE.out.mono ?_
    rintro e w0 ⟨rfl, hw0⟩
    rw [hw0]
    clear hw0
    go_wp2_with fail
    refine (riAdd0 B g a 12 l _ [] v ps w h HP0.out hg hB (by omega) rfl (by simp)).mono ?_
    rintro e w2 ⟨rfl, hfb, v2, r2, p2⟩
    go_wp2
    (try simp only [Exit.inBlock, Exit.then])
    refine bodyPost_ret (results_tmp2 rfl _ _ _) rfl ?_
    rw [HRE.out]
    exact ⟨hfb, rfl, v2, r2, p2⟩
  · have hlt : a < l.length := by
      by_cases hlt : a < l.length
      · exact hlt
      · exact absurd (.inl (List.getElem?_eq_none (by omega))) hst
    have HR : Hid (R = (Pp.many l f a ps).bind fun r => Pp.rest l f r.1 r.2.1 r.2.2) := by
      show _ = _
      rw [hR, Pp.row, if_neg (show ¬ (l[a]? = none ∨ l[a]? = some 124 ∨ l[a]? = some 41) from hst)]
      cases Pp.many l f a ps <;> rfl
    have CE : Hid (Calls Tryz.prog 131 #[.pointer (some ⟨g, 0, none⟩)] w fun e w' => e = .returned (.bool false) ∧ w' = w) := rowEndsNo g a l v w h hst
    clear hR hst
    go_enter Tryz.func125, Tryz.ntmps125
    go_wp2_with fail
    refine CE.out.mono ?_
    rintro e w0 ⟨rfl, hw0⟩
    rw [hw0]
    clear hw0
    go_wp2_with fail
    refine (HM.out f (Nat.le_refl _) a v ps w h HP0.out hB hlt hn (by omega)).mono ?_
    intro e w1 hpost
    obtain ⟨k1, ok1, rfl, hmid⟩ := MidI.of (F := Pp.rest l) (c := 3) (f := f) (M := 50) (hpost.next (w := w) (FB.refl g B w) (show 100 + f ≤ 100 + (f + 1) by omega) rfl) (fun a' o k e1 => by have := (Pp.bd l f).many a ps a' o k e1; omega)
    rw [← HR.out] at hmid
    have HMID : Hid (MidI B g (100 + (f + 1)) l w w1 k1 ok1 R (Pp.rest l) 3 f 50) := hmid
    obtain ⟨z1, b1, rfl, rfl⟩ := hmid.form
    clear hmid hpost HR HP0 CE h
    go_wp2_with fail
    go_loopw [4, 5] (fun k ok wr => Hid (MidI B g (100 + (f + 1)) l w wr k ok R (Pp.rest l) 3 f 50)) (fun _ ok wr => leftI g ok wr)
    case atStart => exact HMID.out
    case round =>
      clear HMID
      obtain ⟨hfb, hm⟩ := hrel.out
      clear hrel
      have HFB : Hid (FB g B w wr) := hfb
      have hBr : B ≤ wr.heap.size := by have := hfb.1; omega
      clear hfb
      rcases hm with ⟨z, a', v', n', cs', rfl, rfl, r', p', hn', hRn⟩ | ⟨j, a', fm, v', o, rfl, rfl, ha', r', p', ho, hRe, hfm, hfm2⟩
      · have HRN : Hid (R = none) := hRn
        clear hRn
        go_wp2
        (try simp only [Exit.inBlock, Exit.then])
        refine bodyPost_ret (results_tmp2 rfl _ _ _) rfl ?_
        rw [HRN.out]
        exact ⟨HFB.out, z, a', v', n', cs', rfl, r', p', by omega⟩
      · obtain ⟨fm, rfl⟩ : ∃ fm', fm = fm' + 1 := ⟨fm - 1, by omega⟩
        have HP' : Hid (RP B wr v' o) := p'
        have hlf := r'.left
        clear p'
        by_cases hst : ends l a'
        · have HRS : Hid (R = some (a', o, j)) := by show _ = _; rw [← hRe]; exact rest_endI l fm a' o j hst
          have CE : Hid (Calls Tryz.prog 131 #[.pointer (some ⟨g, 0, none⟩)] wr fun e w' => e = .returned (.bool true) ∧ w' = wr) := rowEndsYes g a' l v' wr r' hst
          clear hRe hst
          go_wp2_with fail
          refine CE.out.mono ?_
          rintro e w0 ⟨rfl, hw0⟩
          rw [hw0]
          clear hw0
          go_wp2
          (try simp only [Exit.inBlock, Exit.then])
          refine bodyPost_ret (results_tmp2 rfl _ _ _) rfl ?_
          rw [HRS.out]
          exact ⟨HFB.out, rfl, v', r', HP'.out⟩
        · have hlt2 : a' < l.length := by
            by_cases hlt : a' < l.length
            · exact hlt
            · exact absurd (.inl (List.getElem?_eq_none (by omega))) hst
          have HRG : Hid (R = match Pp.many l fm a' o with
              | none => none
              | some (e, o, j2) => (Pp.put o ⟨5, [], [j, j2]⟩).bind fun r => Pp.rest l fm e r.1 r.2) := by
            show _ = _
            rw [← hRe]
            exact rest_goI l fm a' o j hst
          have CE : Hid (Calls Tryz.prog 131 #[.pointer (some ⟨g, 0, none⟩)] wr fun e w' => e = .returned (.bool false) ∧ w' = wr) := rowEndsNo g a' l v' wr r' hst
          clear hRe hst
          go_wp2_with fail
          refine CE.out.mono ?_
          rintro e w0 ⟨rfl, hw0⟩
          rw [hw0]
          clear hw0
          go_wp2_with fail
          refine (HM.out fm (by omega) a' v' o wr r' HP'.out hBr hlt2 (by omega) (by omega)).mono ?_
          intro e w5 hpost
          obtain ⟨hfb5, hpost⟩ := hpost
          have HF5 : Hid (FB g B w w5) := HFB.out.trans hfb5
          have hB5 : B ≤ w5.heap.size := by have := HF5.out.1; omega
          clear hfb5 HFB HP' CE
          cases hmr : Pp.many l fm a' o with
          | none =>
            rw [hmr] at hpost
            obtain ⟨z, a5, v5, n5, cs5, rfl, r5, p5, hn5⟩ := hpost
            have HRN : Hid (R = none) := by show _ = _; rw [HRG.out, hmr]
            clear HRG hmr
            go_wp2_with fail
            refine (riAddBad B g a5 5 n5 l v5 cs5 _ _ _ w5 r5 p5 hg hB5 (by omega)).mono ?_
            rintro e w6 ⟨rfl, hf6, v6, cs6, r6, p6⟩
            have HMID : Hid (MidI B g (100 + (f + 1)) l w w6 (.int .i64 (n5 : Int)) (.bool false) R (Pp.rest l) 3 f 50) := ⟨HF5.out.trans hf6, .inl ⟨_, a5, v6, _, cs6, rfl, rfl, r6, p6, by omega, HRN.out⟩⟩
            have hl6 : leftI g (.bool false) w6 = 0 := rfl
            clear r6 p6 hf6 r5 p5
            go_wp2_with fail
            go_roundw
            case rel => exact HMID.out
            case measure => omega
          | some r =>
            obtain ⟨e5, o5, k5⟩ := r
            rw [hmr] at hpost
            have hb5 := (Pp.bd l fm).many a' o e5 o5 k5 hmr
            obtain ⟨rfl, v5, r5, p5⟩ := hpost
            have HRP : Hid (Pp.rest l fm e5 (o5 ++ [⟨5, [], [j, k5]⟩]) o5.length = R) := by show _ = _; rw [HRG.out, hmr]; show _ = (Pp.put o5 ⟨5, [], [j, k5]⟩).bind _; rw [put_ok (by omega)]; rfl
            clear HRG hmr
            have HP5 : Hid (RP B w5 v5 o5) := p5
            clear p5
            go_wp2_with fail
            refine (riAdd2 B g e5 5 j k5 _ l v5 o5 w5 r5 HP5.out hg hB5 (by omega) rfl).mono ?_
            rintro e w6 ⟨rfl, hfb6, v6, r6, p6⟩
            have hlf6 := r6.left
            have HMID : Hid (MidI B g (100 + (f + 1)) l w w6 (.int .i64 (o5.length : Int)) (.bool true) R (Pp.rest l) 3 f 50) := ⟨HF5.out.trans hfb6, .inr ⟨o5.length, e5, fm, v6, _, rfl, rfl, by omega, r6, p6, by simp; omega, HRP.out, by omega, by omega⟩⟩
            clear r6 p6 hfb6 r5
            go_wp2_with fail
            go_roundw
            case rel => exact HMID.out
            case measure => omega

set_option maxHeartbeats 4000000 in
set_option maxRecDepth 100000 in
theorem riAlt (B g : Nat) (l : List UInt8) (f : Nat) (hg : g < B) (hf : f ≤ 200) (hM : ∀ f', f' ≤ f → RiC B g l 125 (Pp.row l) 3 f') : RiC B g l 119 (Pp.alt l) 4 (f + 1) := by
  intro a v ps w h hr hB ha hn hd
  have HM : Hid (∀ f', f' ≤ f → RiC B g l 125 (Pp.row l) 3 f') := hM
  obtain ⟨R, hR⟩ : ∃ R, R = Pp.alt l (f + 1) a ps := ⟨_, rfl⟩
  rw [← hR]
  have HR : Hid (R = (Pp.row l f a ps).bind fun r => Pp.alts l f r.1 r.2.1 r.2.2) := by
    show _ = _
    rw [hR, Pp.alt]
    cases Pp.row l f a ps <;> rfl
  have HC : Hid (Calls Tryz.prog 125 #[.pointer (some ⟨g, 0, none⟩)] w (RiPost B g l w (100 + f) (Pp.row l f a ps))) := hM f (Nat.le_refl _) a v ps w h hr hB ha hn (by omega)
  clear hM hr hR h
  go_enter Tryz.func119, Tryz.ntmps119
  go_wp2_with fail
  refine HC.out.mono ?_
  intro e w1 hpost
  obtain ⟨k1, ok1, rfl, hmid⟩ := MidI.of (F := Pp.alts l) (c := 3) (f := f) (M := 51) (hpost.next (w := w) (FB.refl g B w) (show 100 + f ≤ 100 + (f + 1) by omega) rfl) (fun a' o k e1 => by have := (Pp.bd l f).row a ps a' o k ha e1; omega)
  rw [← HR.out] at hmid
  have HMID : Hid (MidI B g (100 + (f + 1)) l w w1 k1 ok1 R (Pp.alts l) 3 f 51) := hmid
  obtain ⟨z1, b1, rfl, rfl⟩ := hmid.form
  clear hmid hpost HR HC
  go_wp2_with fail
  go_loopw [4, 5] (fun k ok wr => Hid (MidI B g (100 + (f + 1)) l w wr k ok R (Pp.alts l) 3 f 51)) (fun _ ok wr => leftI g ok wr)
  case atStart => exact HMID.out
  case round =>
    clear HMID
    obtain ⟨hfb, hm⟩ := hrel.out
    clear hrel
    have HFB : Hid (FB g B w wr) := hfb
    have hBr : B ≤ wr.heap.size := by have := hfb.1; omega
    clear hfb
    rcases hm with ⟨z, a', v', n', cs', rfl, rfl, r', p', hn', hRn⟩ | ⟨j, a', fm, v', o, rfl, rfl, ha', r', p', ho, hRe, hfm, hfm2⟩
    · have HRN : Hid (R = none) := hRn
      clear hRn
      go_wp2
      (try simp only [Exit.inBlock, Exit.then])
      refine bodyPost_ret (results_tmp2 rfl _ _ _) rfl ?_
      rw [HRN.out]
      exact ⟨HFB.out, z, a', v', n', cs', rfl, r', p', by omega⟩
    · obtain ⟨fm, rfl⟩ : ∃ fm', fm = fm' + 1 := ⟨fm - 1, by omega⟩
      have HP' : Hid (RP B wr v' o) := p'
      have hlf := r'.left
      clear p'
      by_cases hst : l[a']? = some 124
      · have hlt2 := Pp.lt_of_get hst
        have HRG : Hid (R = match Pp.row l fm (a' + 1) o with
            | none => none
            | some (e, o, j2) => (Pp.put o ⟨6, [], [j, j2]⟩).bind fun r => Pp.alts l fm e r.1 r.2) := by
          show _ = _
          rw [← hRe]
          exact alts_goI l fm a' o j hst
        have CE : Hid (Calls Tryz.prog 126 #[.pointer (some ⟨g, 0, none⟩), .string ⟨#[124]⟩] wr fun e w' => e = .returned (.bool true) ∧ w' = wr) := nextYes g a' l [124] 124 v' wr r' hst (by simp)
        have CT : Hid (Calls Tryz.prog 127 #[.pointer (some ⟨g, 0, none⟩)] wr fun e w' => e = .returned (.string ⟨#[124]⟩) ∧ Ri w' g l (a' + 1) v' ∧ (∃ u, w' = wr.setCell ⟨g, 0, none⟩ u)) := take_any g a' l 124 v' wr r' hst
        clear hRe hst
        go_wp2_with fail
        refine CE.out.mono ?_
        rintro e w0 ⟨rfl, hw0⟩
        rw [hw0]
        clear hw0
        go_wp2_with fail
        refine CT.out.mono ?_
        rintro e w2 ⟨rfl, r2, u, rfl⟩
        clear CT
        go_wp2_with fail
        refine (HM.out fm (by omega) (a' + 1) v' o _ r2 (HP'.out.setg hg 0 u) (by simpa [World.setCell] using hBr) (by omega) (by omega) (by omega)).mono ?_
        intro e w5 hpost
        obtain ⟨hfb5, hpost⟩ := hpost
        have HF5 : Hid (FB g B w w5) := (HFB.out.setg 0 u).trans hfb5
        have hB5 : B ≤ w5.heap.size := by have := HF5.out.1; omega
        clear hfb5 HFB HP' CE
        cases hmr : Pp.row l fm (a' + 1) o with
        | none =>
          rw [hmr] at hpost
          obtain ⟨z, a5, v5, n5, cs5, rfl, r5, p5, hn5⟩ := hpost
          have HRN : Hid (R = none) := by show _ = _; rw [HRG.out, hmr]
          clear HRG hmr
          go_wp2_with fail
          refine (riAddBad B g a5 6 n5 l v5 cs5 _ _ _ w5 r5 p5 hg hB5 (by omega)).mono ?_
          rintro e w6 ⟨rfl, hf6, v6, cs6, r6, p6⟩
          have HMID : Hid (MidI B g (100 + (f + 1)) l w w6 (.int .i64 (n5 : Int)) (.bool false) R (Pp.alts l) 3 f 51) := ⟨HF5.out.trans hf6, .inl ⟨_, a5, v6, _, cs6, rfl, rfl, r6, p6, by omega, HRN.out⟩⟩
          have hl6 : leftI g (.bool false) w6 = 0 := rfl
          clear r6 p6 hf6 r5 p5
          go_wp2_with fail
          go_roundw
          case rel => exact HMID.out
          case measure => omega
        | some r =>
          obtain ⟨e5, o5, k5⟩ := r
          rw [hmr] at hpost
          have hb5 := (Pp.bd l fm).row (a' + 1) o e5 o5 k5 (by omega) hmr
          obtain ⟨rfl, v5, r5, p5⟩ := hpost
          have HRP : Hid (Pp.alts l fm e5 (o5 ++ [⟨6, [], [j, k5]⟩]) o5.length = R) := by show _ = _; rw [HRG.out, hmr]; show _ = (Pp.put o5 ⟨6, [], [j, k5]⟩).bind _; rw [put_ok (by omega)]; rfl
          clear HRG hmr
          have HP5 : Hid (RP B w5 v5 o5) := p5
          clear p5
          go_wp2_with fail
          refine (riAdd2 B g e5 6 j k5 _ l v5 o5 w5 r5 HP5.out hg hB5 (by omega) rfl).mono ?_
          rintro e w6 ⟨rfl, hfb6, v6, r6, p6⟩
          have hlf6 := r6.left
          have HMID : Hid (MidI B g (100 + (f + 1)) l w w6 (.int .i64 (o5.length : Int)) (.bool true) R (Pp.alts l) 3 f 51) := ⟨HF5.out.trans hfb6, .inr ⟨o5.length, e5, fm, v6, _, rfl, rfl, by omega, r6, p6, by simp; omega, HRP.out, by omega, by omega⟩⟩
          clear r6 p6 hfb6 r5
          go_wp2_with fail
          go_roundw
          case rel => exact HMID.out
          case measure => omega
      · have HRS : Hid (R = some (a', o, j)) := by show _ = _; rw [← hRe, Pp.alts, if_neg hst]
        have CE : Hid (Calls Tryz.prog 126 #[.pointer (some ⟨g, 0, none⟩), .string ⟨#[124]⟩] wr fun e w' => e = .returned (.bool false) ∧ w' = wr) := nextNo g a' l [124] v' wr r' (fun b hb hm => hst (by rw [hb, List.mem_singleton.1 hm]))
        clear hRe hst
        go_wp2_with fail
        refine CE.out.mono ?_
        rintro e w0 ⟨rfl, hw0⟩
        rw [hw0]
        clear hw0
        go_wp2
        (try simp only [Exit.inBlock, Exit.then])
        refine bodyPost_ret (results_tmp2 rfl _ _ _) rfl ?_
        rw [HRS.out]
        exact ⟨HFB.out, rfl, v', r', HP'.out⟩

/-- All of it, however deep it goes. -/
theorem riAll (B g : Nat) (l : List UInt8) (hg : g < B) (hl : l.length ≤ 24) : ∀ f, f ≤ 200 → RiC B g l 119 (Pp.alt l) 4 f := by
  intro f
  induction f using Nat.strongRecOn with
  | _ f ih =>
    intro hf
    have hMany : ∀ f', f' < f → ManyI B g l f' := by
      intro f' hf' a v ps w h1 h2 h3 h4 h5 h6
      obtain ⟨f'', rfl⟩ : ∃ f'', f' = f'' + 2 := ⟨f' - 2, by omega⟩
      exact riMany B g l (f'' + 1) hg a ps w (riThing B g l f'' hg hl (ih f'' (by omega) (by omega)) a v ps w h1 h2 h3 h5 (by omega) h4) h3 h5 (by omega)
    have hRow : ∀ f', f' < f → RiC B g l 125 (Pp.row l) 3 f' := by
      intro f' hf'
      cases f' with
      | zero => intro a v ps w h1 h2 h3 h4 h5 h6; omega
      | succ f'' => exact riRow B g l f'' hg (by omega) (fun f3 h3 => hMany f3 (by omega))
    cases f with
    | zero => intro a v ps w h1 h2 h3 h4 h5 h6; omega
    | succ f' => exact riAlt B g l f' hg (by omega) (fun f3 h3 => hRow f3 (by omega))
end PartRiF
section PartRiG
open Go.RowKit

set_option maxHeartbeats 2000000 in
set_option maxRecDepth 100000 in
theorem implRead_any (s : ByteArray) (w : World) (hs : s.size ≤ 1048576) :
    Calls Tryz.prog 109 #[.string s] w fun e w' => Below w.heap.size w w' ∧ Answer w' w.heap.size (Pp.read s.data.toList) e := by
  have hsl : s.data.toList.length = s.size := by simp
  by_cases hin : 1 ≤ s.size ∧ s.size ≤ 24
  · have hem : s.toList.isEmpty = false := by
      rw [Lib.toList_data]
      cases hq : s.data.toList with
      | nil => rw [hq] at hsl; simp at hsl; omega
      | cons b r => rfl
    have d24 : decide ((24 : Int) < (s.size : Int)) = false := decide_eq_false (by omega)
    obtain ⟨R, hR⟩ : ∃ R, R = Pp.read s.data.toList := ⟨_, rfl⟩
    have HR : Hid (R = match Pp.alt s.data.toList 200 0 [] with
        | none => none
        | some (e, o, _) => if e < s.size then none else some o) := by
      show _ = _
      rw [hR, Pp.read, hsl, if_pos hin]
      rfl
    rw [← hR]
    clear hR
    have HA := riAll (w.heap.size + 2) (w.heap.size + 1) s.data.toList (by omega) (by omega) 200 (Nat.le_refl _) 0 (.slice none 0 0) []
    have CA : Hid (∀ w1 : World, Ri w1 (w.heap.size + 1) s.data.toList 0 (.slice none 0 0) → w.heap.size + 2 ≤ w1.heap.size → Calls Tryz.prog 119 #[.pointer (some ⟨w.heap.size + 1, 0, none⟩)] w1 (RiPost (w.heap.size + 2) (w.heap.size + 1) s.data.toList w1 300 (Pp.alt s.data.toList 200 0 []))) :=
      fun w1 h1 h2 => HA w1 h1 ⟨fun _ => 0, [], World.ownsRow_nil _ _ _ _, fun i hi => by simp at hi, fun i j _ hj => by simp at hj⟩ h2 (by omega) (by simp; omega) (by omega)
    have hst : (⟨(s.data.toList.drop 0).toArray⟩ : ByteArray) = s := by apply ByteArray.ext; simp
    have HI : Hid (∀ A : Obj, Ri ((w.alloc A).alloc (.cells #[.string s, .slice none 0 0] 166)) (w.heap.size + 1) s.data.toList 0 (.slice none 0 0)) := by
      intro A
      show _ = _
      rw [alloc2_1, hst]
    clear HA hst
    go_enter Tryz.func109, Tryz.ntmps109
    go_wp2_with fail
    refine (CA.out _ (HI.out _) (by simp)).mono ?_
    intro e w5 hpost
    clear CA HI
    obtain ⟨hfb, hpost⟩ := hpost
    have B5 : Below w.heap.size w w5 := (((Below.refl _ _).alloc (Nat.le_refl _) _).alloc (by simp) _).trans (hfb.below (by omega) (by omega))
    have r0 := hfb.2.1 w.heap.size (by omega) (by omega)
    rw [alloc2_0] at r0
    have hsz5 : w.heap.size + 2 ≤ w5.heap.size := by have := hfb.1; simp at this; omega
    clear hfb
    have x0 := blk_cell r0 0
    have y0 := blk_free r0 0
    simp at x0
    cases hA : Pp.alt s.data.toList 200 0 [] with
    | none =>
      rw [hA] at hpost
      obtain ⟨k, a', v', n', cs', rfl, r', p', hn'⟩ := hpost
      have HRN : Hid (R = none) := by show _ = _; rw [HR.out, hA]
      clear HR hA
      go_wp2_with fail
      refine bodyPost_ret (res_pat rfl _ _ w.heap.size (.slice none 0 0) rfl (blk_set r0 0 (.slice none 0 0))) rfl ?_
      rw [HRN.out]
      exact ⟨B5.setCell (by exact Nat.le_refl _) _, rfl⟩
    | some r =>
      obtain ⟨e5, o5, k5⟩ := r
      rw [hA] at hpost
      obtain ⟨rfl, v', r', p'⟩ := hpost
      have hbd := (Pp.bd s.data.toList 200).alt 0 [] e5 o5 k5 (by omega) hA
      have hpos : 0 < o5.length := Pp.alt_pos _ _ _ _ _ _ _ hA
      simp at hbd
      have ho : o5.length ≤ 60 := by omega
      obtain ⟨c0, c1, f0, f1⟩ := cells2 r'
      obtain ⟨x, hx⟩ : ∃ x, x = tx (s.data.toList.drop e5) := ⟨_, rfl⟩
      have c0' : w5.cell? ⟨w.heap.size + 1, 0, none⟩ = some (.string x) := by rw [hx]; exact c0
      by_cases hend : e5 < s.size
      · have HRN : Hid (R = none) := by show _ = _; rw [HR.out, hA]; simp only [hend, ↓reduceIte]
        have hxe : x.toList.isEmpty = false := by
          rw [hx, tx_empty]
          cases hq : s.data.toList.drop e5 with
          | nil => have := congrArg List.length hq; simp at this; omega
          | cons b r => rfl
        clear HR hA hx c0
        go_wp2_with fail
        refine bodyPost_ret (res_pat rfl _ _ w.heap.size (.slice none 0 0) rfl (blk_set r0 0 (.slice none 0 0))) rfl ?_
        rw [HRN.out]
        exact ⟨B5.setCell (by exact Nat.le_refl _) _, rfl⟩
      · have HRS : Hid (R = some o5) := by show _ = _; rw [HR.out, hA]; simp only [hend, ↓reduceIte]
        have hxe : x.toList.isEmpty = true := by
          rw [hx, tx_empty, List.drop_of_length_le (by omega)]
          rfl
        obtain ⟨ad, cc, rfl⟩ : ∃ ad cc, v' = .slice ad o5.length cc := by
          obtain ⟨_, cs, hp, _⟩ := p'
          rcases hp.2 with ⟨rfl, h0⟩ | ⟨g, cap, cur, rfl, _⟩
          · exact ⟨none, 0, by rw [h0]⟩
          · exact ⟨_, _, rfl⟩
        have d60 : decide ((60 : Int) < (o5.length : Int)) = false := decide_eq_false (by omega)
        have HP' : Hid (RP (w.heap.size + 2) w5 (.slice ad o5.length cc) o5) := p'
        clear HR hA p' hx c0
        go_wp2_with fail
        refine bodyPost_ret (res_pat rfl _ _ w.heap.size (.slice ad o5.length cc) rfl (blk_set r0 0 (.slice ad o5.length cc))) rfl ?_
        rw [HRS.out]
        refine ⟨B5.setCell (by exact Nat.le_refl _) _, _, rfl, ?_, hpos, ho⟩
        exact RP.lower (RP.setg HP'.out (by omega) 0 _) (by omega)
  · have HR : Hid (Pp.read s.data.toList = none) := by show _ = _; rw [Pp.read, hsl, if_neg hin]
    by_cases h0 : s.size = 0
    · have hem : s.toList.isEmpty = true := by
        rw [Lib.toList_data, List.eq_nil_of_length_eq_zero (l := s.data.toList) (by omega)]
        rfl
      go_enter Tryz.func109, Tryz.ntmps109
      go_wp2_with fail
      refine bodyPost_ret (res_pat rfl _ _ w.heap.size (.slice none 0 0) rfl (heap_alloc_new _ _)) rfl ?_
      rw [HR.out]
      exact ⟨(Below.refl _ _).alloc (Nat.le_refl _) _, rfl⟩
    · have hem : s.toList.isEmpty = false := by
        rw [Lib.toList_data]
        cases hq : s.data.toList with
        | nil => rw [hq] at hsl; simp at hsl; omega
        | cons b r => rfl
      have d24 : decide ((24 : Int) < (s.size : Int)) = true := decide_eq_true (by omega)
      go_enter Tryz.func109, Tryz.ntmps109
      go_wp2_with fail
      refine bodyPost_ret (res_pat rfl _ _ w.heap.size (.slice none 0 0) rfl (heap_alloc_new _ _)) rfl ?_
      rw [HR.out]
      exact ⟨(Below.refl _ _).alloc (Nat.le_refl _) _, rfl⟩
end PartRiG
section PartCdD
open Go.RowKit

set_option maxHeartbeats 4000000 in
set_option maxRecDepth 100000 in
theorem stackUse_any (op arg : Int) (w : World) : Calls Tryz.prog 102 #[.agg #[.int .i64 op, .int .i64 arg]] w fun e w' => e = .returned (.tuple #[.int .i64 (Cd.needs ⟨op, arg⟩).1, .int .i64 (Cd.needs ⟨op, arg⟩).2]) ∧ Below w.heap.size w w' := by
  have HA : Hid (Below w.heap.size w (w.alloc (.cells #[.int .i64 op, .int .i64 arg] 105))) := (Below.refl _ _).alloc (Nat.le_refl _) _
  by_cases hr : 1 ≤ op ∧ op ≤ 24
  · rcases (show op = 1 ∨ op = 2 ∨ op = 3 ∨ op = 4 ∨ op = 5 ∨ op = 6 ∨ op = 7 ∨ op = 8 ∨ op = 9 ∨ op = 10 ∨ op = 11 ∨ op = 12 ∨ op = 13 ∨ op = 14 ∨ op = 15 ∨ op = 16 ∨ op = 17 ∨ op = 18 ∨ op = 19 ∨ op = 20 ∨ op = 21 ∨ op = 22 ∨ op = 23 ∨ op = 24 by omega) with rfl | rfl | rfl | rfl | rfl | rfl | rfl | rfl | rfl | rfl | rfl | rfl | rfl | rfl | rfl | rfl | rfl | rfl | rfl | rfl | rfl | rfl | rfl | rfl
    all_goals
      go_enter Tryz.func102, Tryz.ntmps102
      go_wp2
      go_ret2
      exact ⟨rfl, HA.out⟩
  · have HM : Hid (Cd.needs ⟨op, arg⟩ = (0, 0)) := by
      show _ = _
      unfold Cd.needs
      simp only
      rw [if_neg (by omega), if_neg (by omega), if_neg (by omega), if_neg (by omega), if_neg (by omega), if_neg (by omega)]
    have e1 : (op == 1) = false := beq_eq_false_iff_ne.2 (by omega)
    have e2 : (op == 2) = false := beq_eq_false_iff_ne.2 (by omega)
    have e3 : (op == 3) = false := beq_eq_false_iff_ne.2 (by omega)
    have e4 : (op == 4) = false := beq_eq_false_iff_ne.2 (by omega)
    have e5 : (op == 5) = false := beq_eq_false_iff_ne.2 (by omega)
    have e6 : (op == 6) = false := beq_eq_false_iff_ne.2 (by omega)
    have e7 : (op == 7) = false := beq_eq_false_iff_ne.2 (by omega)
    have e8 : (op == 8) = false := beq_eq_false_iff_ne.2 (by omega)
    have e9 : (op == 9) = false := beq_eq_false_iff_ne.2 (by omega)
    have e10 : (op == 10) = false := beq_eq_false_iff_ne.2 (by omega)
    have e11 : (op == 11) = false := beq_eq_false_iff_ne.2 (by omega)
    have e12 : (op == 12) = false := beq_eq_false_iff_ne.2 (by omega)
    have e13 : (op == 13) = false := beq_eq_false_iff_ne.2 (by omega)
    have e14 : (op == 14) = false := beq_eq_false_iff_ne.2 (by omega)
    have e15 : (op == 15) = false := beq_eq_false_iff_ne.2 (by omega)
    have e16 : (op == 16) = false := beq_eq_false_iff_ne.2 (by omega)
    have e17 : (op == 17) = false := beq_eq_false_iff_ne.2 (by omega)
    have e18 : (op == 18) = false := beq_eq_false_iff_ne.2 (by omega)
    have e19 : (op == 19) = false := beq_eq_false_iff_ne.2 (by omega)
    have e20 : (op == 20) = false := beq_eq_false_iff_ne.2 (by omega)
    have e21 : (op == 21) = false := beq_eq_false_iff_ne.2 (by omega)
    have e22 : (op == 22) = false := beq_eq_false_iff_ne.2 (by omega)
    have e23 : (op == 23) = false := beq_eq_false_iff_ne.2 (by omega)
    have e24 : (op == 24) = false := beq_eq_false_iff_ne.2 (by omega)
    clear hr
    go_enter Tryz.func102, Tryz.ntmps102
    go_wp2
    go_ret2
    rw [HM.out]
    exact ⟨rfl, HA.out⟩

/-- Its arg is a place of a text. -/
def Cd.named (op : Int) : Bool := decide (op = 1 ∨ op = 2 ∨ op = 3 ∨ op = 15 ∨ op = 17 ∨ op = 18 ∨ op = 19 ∨ op = 20 ∨ op = 24)
set_option maxHeartbeats 4000000 in
set_option maxRecDepth 100000 in
theorem namesText_any (op : Int) (w : World) : Calls Tryz.prog 99 #[.int .i64 op] w fun e w' => e = .returned (.bool (Cd.named op)) ∧ w' = w := by
  by_cases hr : op = 1 ∨ op = 2 ∨ op = 3 ∨ op = 15 ∨ op = 17 ∨ op = 18 ∨ op = 19 ∨ op = 20 ∨ op = 24
  · rcases hr with rfl | rfl | rfl | rfl | rfl | rfl | rfl | rfl | rfl
    all_goals
      go_enter Tryz.func99, Tryz.ntmps99
      go_wp2
      go_ret
      exact ⟨rfl, rfl⟩
  · have HM : Hid (Cd.named op = false) := decide_eq_false hr
    have e1 : (op == 1) = false := beq_eq_false_iff_ne.2 (by omega)
    have e2 : (op == 2) = false := beq_eq_false_iff_ne.2 (by omega)
    have e3 : (op == 3) = false := beq_eq_false_iff_ne.2 (by omega)
    have e15 : (op == 15) = false := beq_eq_false_iff_ne.2 (by omega)
    have e17 : (op == 17) = false := beq_eq_false_iff_ne.2 (by omega)
    have e18 : (op == 18) = false := beq_eq_false_iff_ne.2 (by omega)
    have e19 : (op == 19) = false := beq_eq_false_iff_ne.2 (by omega)
    have e20 : (op == 20) = false := beq_eq_false_iff_ne.2 (by omega)
    have e24 : (op == 24) = false := beq_eq_false_iff_ne.2 (by omega)
    clear hr
    go_enter Tryz.func99, Tryz.ntmps99
    go_wp2
    go_ret
    rw [HM.out]
    exact ⟨rfl, rfl⟩

/-- The program's ReadPattern: whether it is read. -/
theorem imReadOk (t : ByteArray) (w : World) (ht : t.size ≤ 1048576) :
    Calls Tryz.prog 109 #[.string t] w fun e w' => ∃ va vn vc, e = .returned (.tuple #[.agg #[.slice va vn vc], .bool (Pp.read t.data.toList).isSome]) ∧ Below w.heap.size w w' := by
  refine (implRead_any t w ht).mono ?_
  rintro e w' ⟨b, k⟩
  cases h : Pp.read t.data.toList with
  | none =>
    rw [h] at k
    obtain rfl : e = _ := k
    exact ⟨_, _, _, rfl, b⟩
  | some p =>
    rw [h] at k
    obtain ⟨v, rfl, k1, k2, k3⟩ := k
    obtain ⟨va, vn, vc, rfl⟩ := k1.form
    exact ⟨va, vn, vc, rfl, b⟩

/-- Does a text fit its op? -/
def Cd.fits (op : Int) (t : List UInt8) : Bool := if op = 1 then true else if op = 15 then (Pp.read t).isSome else Cd.nm t
set_option maxHeartbeats 4000000 in
set_option maxRecDepth 100000 in
theorem textFits_any (op : Int) (t : ByteArray) (w : World) (ht : t.size ≤ 1048576) : Calls Tryz.prog 100 #[.int .i64 op, .string t] w fun e w' => e = .returned (.bool (Cd.fits op t.data.toList)) ∧ Below w.heap.size w w' := by
  obtain ⟨V, hV⟩ : ∃ V, V = Cd.fits op t.data.toList := ⟨_, rfl⟩
  rw [← hV]
  have HV : Hid (V = Cd.fits op t.data.toList) := hV
  clear hV
  by_cases h1 : op = 1
  · subst h1
    have HV2 : Hid (V = true) := HV.out
    clear HV
    go_enter Tryz.func100, Tryz.ntmps100
    go_wp2
    go_ret
    exact ⟨by rw [HV2.out]; rfl, Below.refl _ _⟩
  by_cases h2 : op = 15
  · subst h2
    have C : Hid (∀ w, Calls Tryz.prog 109 #[.string t] w fun e w' => ∃ va vn vc, e = .returned (.tuple #[.agg #[.slice va vn vc], .bool V]) ∧ Below w.heap.size w w') := fun w => by rw [HV.out]; exact imReadOk t w ht
    clear HV h1
    go_enter Tryz.func100, Tryz.ntmps100
    go_wp2_with (go_at_call 109; refine (C.out _).mono ?_; rintro e w2 ⟨va, vn, vc, rfl, b2⟩)
    go_ret
    exact ⟨rfl, b2.alloc b2.size _⟩
  · have C : Hid (∀ w, Calls Tryz.prog 25 #[.string t] w fun e w' => e = .returned (.bool V) ∧ Below w.heap.size w w') := fun w => by
      rw [HV.out, Cd.fits, if_neg h1, if_neg h2]
      exact isOf_any t w
    have e1 : (op == 1) = false := beq_eq_false_iff_ne.2 h1
    have e2 : (op == 15) = false := beq_eq_false_iff_ne.2 h2
    clear HV h1 h2
    go_enter Tryz.func100, Tryz.ntmps100
    go_wp2_with (go_at_call 25; refine (C.out _).mono ?_; rintro e w2 ⟨rfl, b2⟩)
    go_ret
    exact ⟨rfl, b2⟩

end PartCdD
end Go.Proofs.YtehagonaacbmiaaGreat
