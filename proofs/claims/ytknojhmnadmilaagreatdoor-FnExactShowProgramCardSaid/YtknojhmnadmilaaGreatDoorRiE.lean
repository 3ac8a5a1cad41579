/- The program's reader of a pattern: a thing with its signs behind it. -/
import Derived.Test.YtknojhmnadmilaaGreatDoorRiD
namespace Go.Proofs.YtknojhmnadmilaaGreatDoor
open Go.RowKit

/-- How much is left to read, as the world holds it. -/
def leftI (g : Nat) (ok : Value) (w : World) : Nat := match ok with
  | .bool true => (match w.cell? ⟨g, 0, none⟩ with
    | some (.string x) => x.size + 1
    | _ => 0)
  | _ => 0
theorem Ri.left {w : World} {g a : Nat} {l : List UInt8} {v : Value} (h : Ri w g l a v) : leftI g (.bool true) w = l.length - a + 1 := by
  obtain ⟨c0, _⟩ := cells2 h
  unfold leftI
  rw [c0]
  show (tx (l.drop a)).size + 1 = _
  rw [tx_size]
  simp
theorem leftI_false (g : Nat) (w : World) : leftI g (.bool false) w = 0 := rfl

/-- Where the program's reader stands in the midst of a part: R is what the part should tell in the end. -/
def MidI (B g N : Nat) (l : List UInt8) (w wr : World) (k ok : Value) (R : Option (Nat × List Pp.Pc × Nat)) (F : Nat → Nat → List Pp.Pc → Nat → Option (Nat × List Pp.Pc × Nat)) (c f M : Nat) : Prop :=
  FB g B w wr ∧ ((∃ (z : Int) (a' : Nat) (v' : Value) (n' : Nat) (cs' : List Value), k = .int .i64 z ∧ ok = .bool false ∧ Ri wr g l a' v' ∧ PR B wr v' n' cs' ∧ n' ≤ N ∧ R = none) ∨
    (∃ (j a' fm : Nat) (v' : Value) (o : List Pp.Pc), k = .int .i64 (j : Int) ∧ ok = .bool true ∧ a' ≤ l.length ∧ Ri wr g l a' v' ∧ RP B wr v' o ∧ o.length + 2 * (l.length - a') ≤ M ∧ F fm a' o j = R ∧ 4 * (l.length - a') + c ≤ fm ∧ fm ≤ f))

theorem MidI.of {B g N c f M : Nat} {l : List UInt8} {w w' : World} {R : Option (Nat × List Pp.Pc × Nat)} {F : Nat → Nat → List Pp.Pc → Nat → Option (Nat × List Pp.Pc × Nat)} {e : Ending} (h : RiPost B g l w N R e w')
    (hd : ∀ a' o k, R = some (a', o, k) → a' ≤ l.length ∧ o.length + 2 * (l.length - a') ≤ M ∧ 4 * (l.length - a') + c ≤ f) :
    ∃ k ok, e = .returned (.tuple #[k, ok]) ∧ MidI B g N l w w' k ok (R.bind fun r => F f r.1 r.2.1 r.2.2) F c f M := by
  obtain ⟨hf, h⟩ := h
  cases R with
  | none =>
    obtain ⟨z, a', v', n', cs', rfl, h1, h2, h3⟩ := h
    exact ⟨_, _, rfl, hf, .inl ⟨z, a', v', n', cs', rfl, rfl, h1, h2, h3, rfl⟩⟩
  | some r =>
    obtain ⟨a', o, j⟩ := r
    obtain ⟨rfl, v', h3, h4⟩ := h
    obtain ⟨d1, d2, d3⟩ := hd a' o j rfl
    exact ⟨_, _, rfl, hf, .inr ⟨j, a', f, v', o, rfl, rfl, d1, h3, h4, d2, rfl, d3, Nat.le_refl _⟩⟩
theorem MidI.form {B g N c f M : Nat} {l : List UInt8} {w wr : World} {k ok : Value} {R : Option (Nat × List Pp.Pc × Nat)} {F : Nat → Nat → List Pp.Pc → Nat → Option (Nat × List Pp.Pc × Nat)} (h : MidI B g N l w wr k ok R F c f M) : ∃ (z : Int) (b : Bool), k = .int .i64 z ∧ ok = .bool b := by
  rcases h.2 with ⟨z, _, _, _, _, rfl, rfl, _⟩ | ⟨j, _, _, _, _, rfl, rfl, _⟩
  · exact ⟨z, false, rfl, rfl⟩
  · exact ⟨j, true, rfl, rfl⟩

set_option maxRecDepth 100000 in
set_option maxHeartbeats 400000 in
theorem rep42 (w : World) : Calls Tryz.prog 96 #[.string ⟨#[42]⟩] w fun e w' => e = .returned (.int .i64 7) ∧ w' = w := by
  go_enter Tryz.func96, Tryz.ntmps96
  go_wp2
  go_ret
  exact ⟨rfl, rfl⟩
set_option maxRecDepth 100000 in
set_option maxHeartbeats 400000 in
theorem rep43 (w : World) : Calls Tryz.prog 96 #[.string ⟨#[43]⟩] w fun e w' => e = .returned (.int .i64 8) ∧ w' = w := by
  go_enter Tryz.func96, Tryz.ntmps96
  go_wp2
  go_ret
  exact ⟨rfl, rfl⟩
set_option maxRecDepth 100000 in
set_option maxHeartbeats 400000 in
theorem rep63 (w : World) : Calls Tryz.prog 96 #[.string ⟨#[63]⟩] w fun e w' => e = .returned (.int .i64 9) ∧ w' = w := by
  go_enter Tryz.func96, Tryz.ntmps96
  go_wp2
  go_ret
  exact ⟨rfl, rfl⟩

theorem more_endI (l : List UInt8) (f a : Nat) (ps : List Pp.Pc) (k : Nat) (h : ∀ b, l[a]? = some b → b ∉ ([42, 43, 63] : List UInt8)) : Pp.more l (f + 1) a ps k = some (a, ps, k) := by
  rw [Pp.more]
  cases hb : l[a]? with
  | none => rfl
  | some b =>
    have := h b hb
    have h2 : ¬ (b = 42 ∨ b = 43 ∨ b = 63) := by simpa using this
    simp only [h2, ↓reduceIte]
theorem more_goI (l : List UInt8) (f a : Nat) (ps : List Pp.Pc) (k op : Nat) (b : UInt8) (hb : l[a]? = some b) (h : b = 42 ∧ op = 7 ∨ b = 43 ∧ op = 8 ∨ b = 63 ∧ op = 9) (hn : ps.length ≤ 59) : Pp.more l (f + 1) a ps k = Pp.more l f (a + 1) (ps ++ [⟨op, [], [k]⟩]) ps.length := by
  rw [Pp.more, hb]
  rcases h with ⟨rfl, rfl⟩ | ⟨rfl, rfl⟩ | ⟨rfl, rfl⟩
  · show (match Pp.put ps ⟨7, [], [k]⟩ with | none => none | some (o, j) => Pp.more l f (a + 1) o j) = _
    rw [put_ok hn]
  · show (match Pp.put ps ⟨8, [], [k]⟩ with | none => none | some (o, j) => Pp.more l f (a + 1) o j) = _
    rw [put_ok hn]
  · show (match Pp.put ps ⟨9, [], [k]⟩ with | none => none | some (o, j) => Pp.more l f (a + 1) o j) = _
    rw [put_ok hn]

set_option maxHeartbeats 2000000 in
set_option maxRecDepth 100000 in
theorem riMany (B g : Nat) (l : List UInt8) (f : Nat) (hg : g < B) (a : Nat) (ps : List Pp.Pc) (w : World)
    (hT : Calls Tryz.prog 95 #[.pointer (some ⟨g, 0, none⟩)] w (RiPost B g l w (100 + f) (Pp.thing l f a ps)))
    (hB : B ≤ w.heap.size) (hn : ps.length + 2 * (l.length - a) ≤ 50) (hd : 4 * (l.length - a) + 2 ≤ f + 1) :
    Calls Tryz.prog 89 #[.pointer (some ⟨g, 0, none⟩)] w (RiPost B g l w (100 + (f + 1)) (Pp.many l (f + 1) a ps)) := by
  have HT : Hid (Calls Tryz.prog 95 #[.pointer (some ⟨g, 0, none⟩)] w (RiPost B g l w (100 + f) (Pp.thing l f a ps))) := hT
  obtain ⟨R, hR⟩ : ∃ R, R = Pp.many l (f + 1) a ps := ⟨_, rfl⟩
  rw [← hR]
  have HR : Hid (R = (Pp.thing l f a ps).bind fun r => Pp.more l f r.1 r.2.1 r.2.2) := by
    show _ = _
    rw [hR, Pp.many]
    cases Pp.thing l f a ps <;> rfl
  clear hT hR
  go_enter Tryz.func89, Tryz.ntmps89
  go_wp2_with fail
  refine HT.out.mono ?_
  intro e w1 hpost
  obtain ⟨k1, ok1, rfl, hmid⟩ := MidI.of (F := Pp.more l) (c := 1) (f := f) (M := 51) hpost (fun a' o k e1 => by have := (Pp.bd l f).thing a ps a' o k e1; omega)
  rw [← HR.out] at hmid
  have HMID : Hid (MidI B g (100 + f) l w w1 k1 ok1 R (Pp.more l) 1 f 51) := hmid
  obtain ⟨z1, b1, rfl, rfl⟩ := hmid.form
  clear hmid hpost HT HR
  cases b1 with
  | false =>
    rcases HMID.out with ⟨hfb, ⟨z, a', v', n', cs', hz, _, r', p', hn', hRn⟩ | ⟨j, a', fm, v', o, _, hok, _⟩⟩
    · have HRN : Hid (R = none) := hRn
      have HFB : Hid (FB g B w w1) := hfb
      clear hRn hfb HMID hz
      go_wp2_with fail
      refine wp_loop_rounds 1 ?_
      rw [rounds_succ]
      go_wp2
      (try simp only [Exit.inBlock, Exit.then])
      refine bodyPost_ret (results_tmp2 rfl _ _ _) rfl ?_
      rw [HRN.out]
      exact ⟨HFB.out, z1, a', v', n', cs', rfl, r', p', by omega⟩
    · cases hok
  | true =>
  go_wp2_with fail
  go_loopw [4] (fun k wr => Hid (MidI B g (100 + f) l w wr k (.bool true) R (Pp.more l) 1 f 51)) (fun _ wr => leftI g (.bool true) wr)
  case atStart => exact HMID.out
  case round =>
    clear HMID
    obtain ⟨hfb, hm⟩ := hrel.out
    clear hrel
    have HFB : Hid (FB g B w wr) := hfb
    have hBr : B ≤ wr.heap.size := by have := hfb.1; omega
    clear hfb
    rcases hm with ⟨z, a', v', n', cs', _, hok, _⟩ | ⟨j, a', fm, v', o, rfl, _, ha', r', p', ho, hRe, hfm, hfm2⟩
    · cases hok
    · obtain ⟨fm, rfl⟩ : ∃ fm', fm = fm' + 1 := ⟨fm - 1, by omega⟩
      have HP' : Hid (RP B wr v' o) := p'
      have hlf := r'.left
      clear p'
      by_cases hq : ∃ b, l[a']? = some b ∧ b ∈ ([42, 43, 63] : List UInt8)
      · obtain ⟨b, hb, hmem⟩ := hq
        have hlt := Pp.lt_of_get hb
        have CN : Hid (Calls Tryz.prog 78 #[.pointer (some ⟨g, 0, none⟩), .string ⟨#[42, 43, 63]⟩] wr fun e w' => e = .returned (.bool true) ∧ w' = wr) := nextYes g a' l [42, 43, 63] b v' wr r' hb hmem
        have CT : Hid (Calls Tryz.prog 79 #[.pointer (some ⟨g, 0, none⟩)] wr fun e w' => e = .returned (.string (tx [b])) ∧ Ri w' g l (a' + 1) v' ∧ (∃ u, w' = wr.setCell ⟨g, 0, none⟩ u)) := take_any g a' l b v' wr r' hb
        obtain ⟨op, hop, CR⟩ : ∃ op : Nat, (b = 42 ∧ op = 7 ∨ b = 43 ∧ op = 8 ∨ b = 63 ∧ op = 9) ∧ Hid (∀ w0 : World, Calls Tryz.prog 96 #[.string (tx [b])] w0 fun e w' => e = .returned (.int .i64 (op : Int)) ∧ w' = w0) := by
          simp only [List.mem_cons, List.not_mem_nil, or_false] at hmem
          rcases hmem with rfl | rfl | rfl
          · exact ⟨7, .inl ⟨rfl, rfl⟩, fun w0 => rep42 w0⟩
          · exact ⟨8, .inr (.inl ⟨rfl, rfl⟩), fun w0 => rep43 w0⟩
          · exact ⟨9, .inr (.inr ⟨rfl, rfl⟩), fun w0 => rep63 w0⟩
        have HPUT : Hid (Pp.more l fm (a' + 1) (o ++ [⟨op, [], [j]⟩]) o.length = R) := by
          show _ = _
          rw [← hRe, more_goI l fm a' o j op b hb hop (by omega)]
        clear hRe hmem hop hb
        go_wp2_with fail
        refine CN.out.mono ?_
        rintro e w0 ⟨rfl, hw0⟩
        rw [hw0]
        clear hw0
        go_wp2_with fail
        refine CT.out.mono ?_
        rintro e w2 ⟨rfl, r2, u, rfl⟩
        go_wp2_with fail
        refine (CR.out _).mono ?_
        rintro e w3 ⟨rfl, rfl⟩
        go_wp2_with fail
        refine (riAdd1 B g (a' + 1) op j _ l v' o _ r2 (HP'.out.setg hg 0 u) hg (by simpa [World.setCell] using hBr) (by omega) (by simp [World.setCell])).mono ?_
        rintro e w4 ⟨rfl, hfb4, v4, r4, p4⟩
        have hlf4 := r4.left
        have HMID : Hid (MidI B g (100 + f) l w w4 (.int .i64 (o.length : Int)) (.bool true) R (Pp.more l) 1 f 51) := ⟨(HFB.out.setg 0 u).trans hfb4, .inr ⟨o.length, a' + 1, fm, v4, _, rfl, rfl, by omega, r4, p4, by simp; omega, HPUT.out, by omega, by omega⟩⟩
        clear r4 p4 hfb4 r2 CN CT CR
        go_wp2_with fail
        go_roundw
        case rel => exact HMID.out
        case measure => omega
      · have HRS : Hid (R = some (a', o, j)) := by
          show _ = _
          rw [← hRe]
          exact more_endI l fm a' o j (fun b hb hm => hq ⟨b, hb, hm⟩)
        have CN : Hid (Calls Tryz.prog 78 #[.pointer (some ⟨g, 0, none⟩), .string ⟨#[42, 43, 63]⟩] wr fun e w' => e = .returned (.bool false) ∧ w' = wr) := nextNo g a' l [42, 43, 63] v' wr r' (fun b hb hm => hq ⟨b, hb, hm⟩)
        clear hRe hq
        go_wp2_with fail
        refine CN.out.mono ?_
        rintro e w0 ⟨rfl, hw0⟩
        rw [hw0]
        clear hw0
        go_wp2
        (try simp only [Exit.inBlock, Exit.then])
        refine bodyPost_ret (results_tmp2 rfl _ _ _) rfl ?_
        rw [HRS.out]
        exact ⟨HFB.out, rfl, v', r', HP'.out⟩
#print axioms riMany
end Go.Proofs.YtknojhmnadmilaaGreatDoor
