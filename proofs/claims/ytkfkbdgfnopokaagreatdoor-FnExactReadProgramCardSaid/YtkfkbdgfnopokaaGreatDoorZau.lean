/- The program's reader of a program, plainly: what it adds is no more than it takes, and its texts are of the tokens. The program's reader of a pattern: a set, and a thing. The program's reader of a pattern: a thing. The program's reader of a pattern: a thing with its signs behind it. The program's reader of a pattern: one thing behind the other, and alternatives. What ReadPattern of the program answers, at every text. -/
import Derived.Test.YtkfkbdgfnopokaaGreatDoorZas
import Derived.Test.YtkfkbdgfnopokaaGreatDoorZat
import Derived.Test.YtkfkbdgfnopokaaGreatDoorZah
import Derived.Test.YtkfkbdgfnopokaaGreatDoorZae
namespace Go.Proofs.YtkfkbdgfnopokaaGreatDoor
section PartRsP
namespace Ip
def Tm (M : Nat) (ts : List Tk.Tok) : Prop := ts.length ≤ 200 ∧ ∀ t ∈ ts, t.text.length ≤ M
def GB (k M : Nat) (G : Nat → List Pi) : Prop := ∀ n, (G n).length ≤ k ∧ ∀ p ∈ G n, p.text.size ≤ M ∧ p.kids.length ≤ 1000
def Fine (M : Nat) (F : Rd) : Prop := ∀ ts G r, F ts = some (G, r) → Tm M ts → Tm M r ∧ r.length ≤ ts.length ∧ GB (ts.length - r.length) M G
section
variable {M k k1 k2 : Nat}
theorem Tm.tail {t : Tk.Tok} {r : List Tk.Tok} (h : Tm M (t :: r)) : Tm M r := ⟨by have := h.1; simp only [List.length_cons] at this; omega, fun x hx => h.2 x (List.mem_cons_of_mem _ hx)⟩
theorem Tm.want {a : Nat} {x : List UInt8} {ts r : List Tk.Tok} (h : want a x ts = some r) (ht : Tm M ts) : Tm M r ∧ ts.length = r.length + 1 := by
 obtain ⟨t, rfl, -⟩ := want_some h
 exact ⟨ht.tail, by simp⟩
theorem GB.up {G : Nat → List Pi} (h : GB k M G) (hk : k ≤ k1) : GB k1 M G := fun n => ⟨Nat.le_trans (h n).1 hk, (h n).2⟩
theorem all_snoc (Gs : List (Nat → List Pi)) (G : Nat → List Pi) : ∀ n, Fl.all (Gs ++ [G]) n = Fl.all Gs n ++ G (n + (Fl.all Gs n).length) := by
 induction Gs with
 | nil => intro n; simp [Fl.all]
 | cons H r ih => intro n; simp only [List.cons_append, Fl.all, ih, List.length_append, List.append_assoc, Nat.add_assoc]
theorem GB.nil : GB 0 M (Fl.all []) := fun n => ⟨Nat.le_refl _, fun p hp => by simp [Fl.all] at hp⟩
theorem GB.snoc {Gs : List (Nat → List Pi)} {G : Nat → List Pi} (h : GB k1 M (Fl.all Gs)) (h2 : GB k2 M G) : GB (k1 + k2) M (Fl.all (Gs ++ [G])) := fun n => by
 rw [all_snoc, List.length_append]
 refine ⟨by have := (h n).1; have := (h2 (n + (Fl.all Gs n).length)).1; omega, fun p hp => ?_⟩
 rcases List.mem_append.1 hp with hp | hp
 ·exact (h n).2 p hp
 ·exact (h2 _).2 p hp
theorem GB.node {op : Nat} {t : List UInt8} {Gs : List (Nat → List Pi)} (h : GB k M (Fl.all Gs)) (ht : t.length ≤ M) (hl : Gs.length ≤ 1000) : GB (k + 1) M (Fl.node op t Gs) := fun n => by
 unfold Fl.node
 rw [List.length_append]
 refine ⟨by have := (h n).1; simp only [List.length_cons, List.length_nil]; omega, fun p hp => ?_⟩
 rcases List.mem_append.1 hp with hp | hp
 ·exact (h n).2 p hp
 ·rw [List.mem_singleton] at hp
  subst hp
  refine ⟨?_, ?_⟩
  ·show t.toArray.size ≤ M
   simpa using ht
  ·show (Fl.ids Gs n).length ≤ 1000
   rw [Fl.ids_len]
   exact hl
theorem GB.n0 {op : Nat} {t : List UInt8} (ht : t.length ≤ M) : GB 1 M (Fl.node op t []) := GB.nil.node ht (by simp)
theorem GB.n1 {op : Nat} {t : List UInt8} {G : Nat → List Pi} (h : GB k M G) (ht : t.length ≤ M) : GB (k + 1) M (Fl.node op t [G]) := by
 have := (GB.nil.snoc h).node (op := op) ht (by simp)
 rw [Nat.zero_add] at this
 exact this
theorem GB.n2 {op : Nat} {t : List UInt8} {G H : Nat → List Pi} (h : GB k1 M G) (h2 : GB k2 M H) (ht : t.length ≤ M) : GB (k1 + k2 + 1) M (Fl.node op t [G, H]) := by
 have := ((GB.nil.snoc h).snoc h2).node (op := op) ht (by simp)
 rw [Nat.zero_add] at this
 exact this
theorem GB.n3 {op k3 : Nat} {t : List UInt8} {G H J : Nat → List Pi} (h : GB k1 M G) (h2 : GB k2 M H) (h3 : GB k3 M J) (ht : t.length ≤ M) : GB (k1 + k2 + k3 + 1) M (Fl.node op t [G, H, J]) := by
 have := (((GB.nil.snoc h).snoc h2).snoc h3).node (op := op) ht (by simp)
 rw [Nat.zero_add] at this
 exact this
end
section
variable {M : Nat}
theorem fine_none : Fine M (fun _ => none) := fun _ _ _ e => nomatch e
theorem fine_upTo {E : Rd} {x : List UInt8} (h : Fine M E) : Fine M (upTo E x) := by
 intro ts G r e ht
 unfold upTo at e
 simp only [Option.bind_eq_some_iff, Option.map_eq_some_iff, Prod.mk.injEq] at e
 obtain ⟨⟨G1, r1⟩, h1, r2, h2, rfl, rfl⟩ := e
 obtain ⟨a, b, c⟩ := h _ _ _ h1 ht
 obtain ⟨d, f⟩ := Tm.want h2 a
 simp only at f
 exact ⟨d, by omega, c.up (by omega)⟩
theorem fine_ofOne {U : Rd} (h : Fine M U) : Fine M (ofOne U) := by
 intro ts G r e ht
 cases ts with
 | nil => cases e
 | cons t r1 =>
  have hx := ht.2 t (List.mem_cons_self ..)
  have hr := ht.tail
  simp only [ofOne] at e
  split at e
  ·simp only [Option.some.injEq, Prod.mk.injEq] at e; obtain ⟨rfl, rfl⟩ := e
   exact ⟨hr, by simp, (GB.n0 hx).up (by simp)⟩
  ·split at e
   ·simp only [Option.some.injEq, Prod.mk.injEq] at e; obtain ⟨rfl, rfl⟩ := e
    exact ⟨hr, by simp, (GB.n0 hx).up (by simp)⟩
   ·split at e
    ·unfold named at e
     split at e
     ·simp only [Option.some.injEq, Prod.mk.injEq] at e; obtain ⟨rfl, rfl⟩ := e
      exact ⟨hr, by simp, (GB.n0 hx).up (by simp)⟩
     ·rename_i r' hw
      simp only [Option.map_eq_some_iff, Prod.mk.injEq] at e
      obtain ⟨⟨G1, r2⟩, h1, rfl, rfl⟩ := e
      obtain ⟨d, f⟩ := Tm.want hw hr
      obtain ⟨a, b, c⟩ := h _ _ _ h1 d
      simp only [List.length_cons]
      exact ⟨a, by omega, (GB.n1 c hx).up (by omega)⟩
    ·cases e
theorem fine_here {S U V : Rd} (hS : Fine M S) (hU : Fine M U) (hV : Fine M V) : Fine M (here S U V) := by
 intro ts G r e ht
 unfold here at e
 split at e
 ·rename_i r0 hw
  simp only [Option.map_eq_some_iff, Prod.mk.injEq] at e
  obtain ⟨⟨G1, r2⟩, h1, rfl, rfl⟩ := e
  obtain ⟨d, f⟩ := Tm.want hw ht
  obtain ⟨a, b, c⟩ := hS _ _ _ h1 d
  show Tm M r2 ∧ r2.length ≤ ts.length ∧ GB (ts.length - r2.length) M _
  exact ⟨a, by omega, (GB.n1 c (Nat.zero_le _)).up (by omega)⟩
 ·split at e
  ·rename_i r0 hw
   obtain ⟨d, f⟩ := Tm.want hw ht
   obtain ⟨a, b, c⟩ := hU _ _ _ e d
   exact ⟨a, by omega, c.up (by omega)⟩
  ·split at e
   ·rename_i r0 hw
    simp only [Option.some.injEq, Prod.mk.injEq] at e; obtain ⟨rfl, rfl⟩ := e
    obtain ⟨d, f⟩ := Tm.want hw ht
    exact ⟨d, by omega, (GB.n0 (Nat.zero_le _)).up (by omega)⟩
   ·split at e
    ·rename_i r0 hw
     simp only [Option.some.injEq, Prod.mk.injEq] at e; obtain ⟨rfl, rfl⟩ := e
     obtain ⟨d, f⟩ := Tm.want hw ht
     exact ⟨d, by omega, (GB.n0 (Nat.zero_le _)).up (by omega)⟩
    ·split at e
     ·rename_i r0 hw
      unfold long at e
      simp only [Option.bind_eq_some_iff, Option.map_eq_some_iff, Prod.mk.injEq] at e
      obtain ⟨r1, h1, ⟨G1, r2⟩, h2, rfl, rfl⟩ := e
      obtain ⟨d, f⟩ := Tm.want hw ht
      obtain ⟨d2, f2⟩ := Tm.want h1 d
      obtain ⟨a, b, c⟩ := hU _ _ _ h2 d2
      show Tm M r2 ∧ r2.length ≤ ts.length ∧ GB (ts.length - r2.length) M _
      exact ⟨a, by omega, (GB.n1 c (Nat.zero_le _)).up (by omega)⟩
     ·exact fine_ofOne hV _ _ _ e ht
theorem tm_op {a b j : Nat} {ts r : List Tk.Tok} (h : opOf a b ts = some (j, r)) (ht : Tm M ts) : Tm M r ∧ ts.length = r.length + 1 := by
 unfold opOf at h
 split at h
 ·rename_i r0 hw
  simp only [Option.some.injEq, Prod.mk.injEq] at h; obtain ⟨-, rfl⟩ := h
  exact Tm.want hw ht
 ·simp only [Option.map_eq_some_iff, Prod.mk.injEq] at h
  obtain ⟨r0, hw, -, rfl⟩ := h
  exact Tm.want hw ht
theorem fine_rowL {F : Rd} {a b : Nat} (h : Fine M F) : ∀ (f : Nat) (G : Nat → List Pi) (ts : List Tk.Tok) (G' : Nat → List Pi) (r : List Tk.Tok) (k : Nat), rowL F a b f G ts = some (G', r) → Tm M ts → GB k M G → Tm M r ∧ r.length ≤ ts.length ∧ GB (k + (ts.length - r.length)) M G'
 | 0, G, ts, G', r, k, e, ht, hg => by
  simp only [rowL, Option.some.injEq, Prod.mk.injEq] at e
  obtain ⟨rfl, rfl⟩ := e
  exact ⟨ht, Nat.le_refl _, hg.up (by omega)⟩
 | f + 1, G, ts, G', r, k, e, ht, hg => by
  simp only [rowL] at e
  split at e
  ·simp only [Option.some.injEq, Prod.mk.injEq] at e
   obtain ⟨rfl, rfl⟩ := e
   exact ⟨ht, Nat.le_refl _, hg.up (by omega)⟩
  ·rename_i j r1 hop
   simp only [Option.bind_eq_some_iff] at e
   obtain ⟨⟨G1, r2⟩, h1, h2⟩ := e
   obtain ⟨d, f1⟩ := tm_op hop ht
   obtain ⟨a1, b1, c1⟩ := h _ _ _ h1 d
   obtain ⟨a2, b2, c2⟩ := fine_rowL h f _ _ _ _ _ h2 a1 (GB.n2 hg c1 (Nat.zero_le _))
   simp only at b2 c2
   exact ⟨a2, by omega, c2.up (by omega)⟩
theorem fine_row {F : Rd} {a b : Nat} (h : Fine M F) : Fine M (row F a b) := by
 intro ts G r e ht
 unfold row at e
 simp only [Option.bind_eq_some_iff] at e
 obtain ⟨⟨G1, r1⟩, h1, h2⟩ := e
 obtain ⟨a1, b1, c1⟩ := h _ _ _ h1 ht
 obtain ⟨a2, b2, c2⟩ := fine_rowL h _ _ _ _ _ _ h2 a1 c1
 simp only at b2 c2
 exact ⟨a2, by omega, c2.up (by omega)⟩
theorem fine_expr {F : Rd} (h : Fine M F) : Fine M (expr F) := by
 intro ts G r e ht
 unfold expr at e
 simp only [Option.bind_eq_some_iff] at e
 obtain ⟨⟨G1, r1⟩, h1, h2⟩ := e
 obtain ⟨a1, b1, c1⟩ := h _ _ _ h1 ht
 unfold held at h2
 split at h2
 ·rename_i j r2 hop
  simp only [Option.map_eq_some_iff, Prod.mk.injEq] at h2
  obtain ⟨⟨G2, r3⟩, h3, rfl, rfl⟩ := h2
  obtain ⟨d, f1⟩ := tm_op hop a1
  obtain ⟨a2, b2, c2⟩ := h _ _ _ h3 d
  simp only at f1
  show Tm M r3 ∧ r3.length ≤ ts.length ∧ GB (ts.length - r3.length) M _
  exact ⟨a2, by omega, (GB.n2 c1 c2 (Nat.zero_le _)).up (by omega)⟩
 ·split at h2
  ·rename_i r2 hw
   obtain ⟨d, f1⟩ := Tm.want hw a1
   simp only at f1
   cases r2 with
   | nil => cases h2
   | cons t r3 =>
    simp only [has] at h2
    split at h2
    ·simp only [Option.some.injEq, Prod.mk.injEq] at h2
     obtain ⟨rfl, rfl⟩ := h2
     simp only [List.length_cons] at f1
     exact ⟨d.tail, by omega, (GB.n1 c1 (d.2 t (List.mem_cons_self ..))).up (by omega)⟩
    ·cases h2
  ·simp only [Option.some.injEq, Prod.mk.injEq] at h2
   obtain ⟨rfl, rfl⟩ := h2
   exact ⟨a1, b1, c1⟩
theorem fine_SE : ∀ n, Fine M (SE n).1 ∧ Fine M (SE n).2
 | 0 => ⟨fine_none, fine_none⟩
 | n + 1 => ⟨fine_here (fine_SE n).1 (fine_upTo (fine_SE n).2) (fine_upTo (fine_SE n).2), fine_expr (fine_row (fine_row (fine_row (fine_SE n).1)))⟩
theorem tm_setOp {ts r : List Tk.Tok} {y : Bool} (h : setOp ts = some (y, r)) (ht : Tm M ts) : Tm M r ∧ ts.length = r.length + 1 := by
 unfold setOp at h
 split at h
 ·rename_i r0 hw
  simp only [Option.some.injEq, Prod.mk.injEq] at h; obtain ⟨-, rfl⟩ := h
  exact Tm.want hw ht
 ·split at h
  ·rename_i r0 hw
   simp only [Option.some.injEq, Prod.mk.injEq] at h; obtain ⟨-, rfl⟩ := h
   exact Tm.want hw ht
  ·cases h
theorem fine_setting {E U : Rd} (hE : Fine M E) (hU : Fine M U) : Fine M (setting E U) := by
 intro ts G r e ht
 cases ts with
 | nil => cases e
 | cons t r1 =>
  have hx := ht.2 t (List.mem_cons_self ..)
  have hr := ht.tail
  simp only [setting] at e
  split at e
  ·unfold settingOf at e
   split at e
   ·simp only [Option.bind_eq_some_iff, Option.map_eq_some_iff, Prod.mk.injEq] at e
    obtain ⟨⟨y, r2⟩, h1, ⟨G1, r3⟩, h2, rfl, rfl⟩ := e
    obtain ⟨d, f⟩ := tm_setOp h1 hr
    obtain ⟨a, b, c⟩ := hE _ _ _ h2 d
    simp only [List.length_cons] at b c ⊢
    exact ⟨a, by omega, (GB.n1 c hx).up (by omega)⟩
   ·rename_i r0 hw
    simp only [Option.bind_eq_some_iff, Option.map_eq_some_iff, Prod.mk.injEq] at e
    obtain ⟨⟨G0, r4⟩, h0, ⟨y, r2⟩, h1, ⟨G1, r3⟩, h2, rfl, rfl⟩ := e
    obtain ⟨d0, f0⟩ := Tm.want hw hr
    obtain ⟨a0, b0, c0⟩ := hU _ _ _ h0 d0
    obtain ⟨d, f⟩ := tm_setOp h1 a0
    obtain ⟨a, b, c⟩ := hE _ _ _ h2 d
    simp only [List.length_cons] at f b c ⊢
    exact ⟨a, by omega, (GB.n2 c0 c hx).up (by omega)⟩
  ·cases e
theorem fine_more {E : Rd} (h : Fine M E) : ∀ (f : Nat) (Gs : List (Nat → List Pi)) (ts : List Tk.Tok) (z : List (Nat → List Pi)) (r : List Tk.Tok) (k : Nat), more E f Gs ts = some (z, r) → Tm M ts → GB k M (Fl.all Gs) → Gs.length + ts.length ≤ 500 → Tm M r ∧ r.length ≤ ts.length ∧ GB (k + (ts.length - r.length)) M (Fl.all z) ∧ z.length ≤ 500
 | 0, Gs, ts, z, r, k, e, ht, hg, hl => by
  simp only [more, Option.some.injEq, Prod.mk.injEq] at e
  obtain ⟨rfl, rfl⟩ := e
  exact ⟨ht, Nat.le_refl _, hg.up (by omega), by omega⟩
 | f + 1, Gs, ts, z, r, k, e, ht, hg, hl => by
  simp only [more] at e
  split at e
  ·simp only [Option.some.injEq, Prod.mk.injEq] at e
   obtain ⟨rfl, rfl⟩ := e
   exact ⟨ht, Nat.le_refl _, hg.up (by omega), by omega⟩
  ·rename_i r1 hw
   simp only [Option.bind_eq_some_iff] at e
   obtain ⟨⟨G1, r2⟩, h1, h2⟩ := e
   obtain ⟨d, f1⟩ := Tm.want hw ht
   obtain ⟨a1, b1, c1⟩ := h _ _ _ h1 d
   obtain ⟨a2, b2, c2, l2⟩ := fine_more h f _ _ _ _ _ h2 a1 (hg.snoc c1) (by simp only [List.length_append, List.length_cons, List.length_nil]; omega)
   simp only at b2 c2
   exact ⟨a2, by omega, c2.up (by omega), l2⟩
def Fine1 (M : Nat) (F : Rd) : Prop := ∀ ts G r, F ts = some (G, r) → Tm M ts → Tm M r ∧ r.length ≤ ts.length ∧ GB (ts.length - r.length + 1) M G
theorem Fine.one {F : Rd} (h : Fine M F) : Fine1 M F := fun ts G r e ht => by
 obtain ⟨a, b, c⟩ := h ts G r e ht
 exact ⟨a, b, c.up (by omega)⟩
theorem fine_printed {E : Rd} (h : Fine M E) : Fine1 M (printed E) := by
 intro ts G r e ht
 unfold printed at e
 simp only [Option.bind_eq_some_iff, Option.map_eq_some_iff, Prod.mk.injEq] at e
 obtain ⟨⟨G1, r1⟩, h1, ⟨z, r2⟩, h2, rfl, rfl⟩ := e
 obtain ⟨a1, b1, c1⟩ := h _ _ _ h1 ht
 have c0 := GB.nil.snoc c1
 obtain ⟨a2, b2, c2, l2⟩ := fine_more h _ _ _ _ _ _ h2 a1 c0 (by have := a1.1; simp; omega)
 show Tm M r2 ∧ r2.length ≤ ts.length ∧ GB (ts.length - r2.length + 1) M _
 simp only at b2 c2
 exact ⟨a2, by omega, (c2.node (op := 17) (t := []) (Nat.zero_le _) (by omega)).up (by omega)⟩
theorem fine_choice {U S : Rd} (hU : Fine M U) (hS : Fine M S) : Fine M (choice U S) := by
 intro ts G r e ht
 unfold choice at e
 simp only [Option.bind_eq_some_iff] at e
 obtain ⟨r1, h1, ⟨G1, r2⟩, h2, ⟨G2, r3⟩, h3, e⟩ := e
 obtain ⟨d, f⟩ := Tm.want h1 ht
 obtain ⟨a1, b1, c1⟩ := hU _ _ _ h2 d
 obtain ⟨a2, b2, c2⟩ := hS _ _ _ h3 a1
 simp only at b2 c2
 split at e
 ·simp only [Option.some.injEq, Prod.mk.injEq] at e
  obtain ⟨rfl, rfl⟩ := e
  exact ⟨a2, by omega, (GB.n2 c1 c2 (Nat.zero_le _)).up (by omega)⟩
 ·rename_i r6 hw
  simp only [Option.map_eq_some_iff, Prod.mk.injEq] at e
  obtain ⟨⟨G3, r4⟩, h4, rfl, rfl⟩ := e
  obtain ⟨d2, f2⟩ := Tm.want hw a2
  obtain ⟨a3, b3, c3⟩ := hS _ _ _ h4 d2
  simp only at f2
  show Tm M r4 ∧ r4.length ≤ ts.length ∧ GB (ts.length - r4.length) M _
  exact ⟨a3, by omega, (GB.n3 c1 c2 c3 (Nat.zero_le _)).up (by omega)⟩
theorem Tm.ends {ts : List Tk.Tok} (h : Tm M ts) : Tm M (Rx.ends ts) := by
 induction ts with
 | nil => exact h
 | cons t r ih =>
  rw [Rx.ends]
  split
  ·exact ih h.tail
  ·exact h
theorem fine_blockL {S : Rd} (h : Fine M S) (ss : Shs S) : ∀ (f : Nat) (Gs : List (Nat → List Pi)) (ts : List Tk.Tok) (z : List (Nat → List Pi)) (r : List Tk.Tok) (k : Nat), blockL S f Gs ts = some (z, r) → Tm M ts → GB k M (Fl.all Gs) → Gs.length + ts.length ≤ 500 → Tm M r ∧ r.length ≤ ts.length ∧ GB (k + (ts.length - r.length)) M (Fl.all z) ∧ z.length ≤ 500
 | 0, Gs, ts, z, r, k, e, ht, hg, hl => by cases e
 | f + 1, Gs, ts, z, r, k, e, ht, hg, hl => by
  simp only [blockL] at e
  split at e
  ·rename_i r1 hw
   simp only [Option.some.injEq, Prod.mk.injEq] at e
   obtain ⟨rfl, rfl⟩ := e
   obtain ⟨d, f1⟩ := Tm.want hw ht
   exact ⟨d, by omega, hg.up (by omega), by omega⟩
  ·simp only [Option.bind_eq_some_iff] at e
   obtain ⟨⟨G1, r1⟩, h1, h2⟩ := e
   obtain ⟨a1, b1, c1⟩ := h _ _ _ h1 ht
   split at h2
   ·have hs1 := ss _ _ _ h1
    obtain ⟨a2, b2, c2, l2⟩ := fine_blockL h ss f _ _ _ _ _ h2 a1 (hg.snoc c1) (by simp only [List.length_append, List.length_cons, List.length_nil]; omega)
    simp only at b2 c2
    exact ⟨a2, by omega, c2.up (by omega), l2⟩
   ·simp only [Option.bind_eq_some_iff] at h2
    obtain ⟨r2, h3, h4⟩ := h2
    obtain ⟨d, f1⟩ := Tm.want h3 a1
    have hle := Rx.ends_len r2
    have hs1 := ss _ _ _ h1
    obtain ⟨a2, b2, c2, l2⟩ := fine_blockL h ss f _ _ _ _ _ h4 d.ends (hg.snoc c1) (by simp only [List.length_append, List.length_cons, List.length_nil]; omega)
    try simp only at f1 b2 c2
    exact ⟨a2, by omega, c2.up (by omega), l2⟩
theorem fine_block {S : Rd} (h : Fine M S) (ss : Shs S) : Fine M (block S) := by
 intro ts G r e ht
 unfold block at e
 simp only [Option.bind_eq_some_iff, Option.map_eq_some_iff, Prod.mk.injEq] at e
 obtain ⟨r1, h1, ⟨z, r2⟩, h2, rfl, rfl⟩ := e
 obtain ⟨d, f⟩ := Tm.want h1 ht
 have hle := Rx.ends_len r1
 obtain ⟨a2, b2, c2, l2⟩ := fine_blockL h ss _ _ _ _ _ _ h2 d.ends GB.nil (by have := d.1; simp only [List.length_nil]; omega)
 show Tm M r2 ∧ r2.length ≤ ts.length ∧ GB (ts.length - r2.length) M _
 exact ⟨a2, by omega, (c2.node (op := 24) (t := []) (Nat.zero_le _) (by omega)).up (by omega)⟩
theorem fine_stHere {B P C Z : Rd} (hB : Fine M B) (hP : Fine1 M P) (hC : Fine M C) (hZ : Fine M Z) : Fine M (stHere B P C Z) := by
 intro ts G r e ht
 unfold stHere at e
 split at e
 ·exact hB _ _ _ e ht
 ·split at e
  ·rename_i r0 hw
   obtain ⟨d, f⟩ := Tm.want hw ht
   obtain ⟨a, b, c⟩ := hP _ _ _ e d
   exact ⟨a, by omega, c.up (by omega)⟩
  ·split at e
   ·rename_i r0 hw
    simp only [Option.some.injEq, Prod.mk.injEq] at e
    obtain ⟨rfl, rfl⟩ := e
    obtain ⟨d, f⟩ := Tm.want hw ht
    exact ⟨d, by omega, (GB.n0 (Nat.zero_le _)).up (by omega)⟩
   ·split at e
    ·rename_i r0 hw
     obtain ⟨d, f⟩ := Tm.want hw ht
     cases r0 with
     | nil => cases e
     | cons t2 r2 =>
      simp only [dumpOf] at e
      split at e
      ·simp only [Option.some.injEq, Prod.mk.injEq] at e
       obtain ⟨rfl, rfl⟩ := e
       simp only [List.length_cons] at f
       exact ⟨d.tail, by omega, (GB.n0 (d.2 t2 (List.mem_cons_self ..))).up (by omega)⟩
      ·cases e
    ·split at e
     ·rename_i r0 hw
      obtain ⟨d, f⟩ := Tm.want hw ht
      obtain ⟨a, b, c⟩ := hC _ _ _ e d
      exact ⟨a, by omega, c.up (by omega)⟩
     ·exact hZ _ _ _ e ht
theorem fine_ST : ∀ n, Fine M (ST n)
 | 0 => fine_none
 | n + 1 => fine_stHere (fine_block (fine_ST n) (shs_ST n)) (fine_printed (fine_SE n).2) (fine_choice (fine_upTo (fine_SE n).2) (fine_ST n)) (fine_setting (fine_SE n).2 (fine_upTo (fine_SE n).2))
def PB (k M : Nat) (ps : List Ru.P) : Prop := (Fl.prog ps).1.length ≤ k ∧ ∀ p ∈ (Fl.prog ps).1, p.text.size ≤ M ∧ p.kids.length ≤ 1000
theorem PB.snoc {k k2 : Nat} {ps : List Ru.P} {p : Ru.P} (h : PB k M ps) (hg : match p.2.1 with | none => GB k2 M p.2.2 | some T => ∃ k1 k3, GB k1 M T ∧ GB k3 M p.2.2 ∧ k1 + k3 ≤ k2) : PB (k + k2) M (ps ++ [p]) := by
 unfold PB Fl.prog at *
 rw [List.foldl_append]
 show (Fl.one _ p).1.length ≤ _ ∧ ∀ x ∈ (Fl.one _ p).1, _
 generalize ps.foldl Fl.one ([], []) = q at h ⊢
 obtain ⟨w, T, D⟩ := p
 cases T with
 | none =>
  have hg2 : GB k2 M D := hg
  show (q.1 ++ D q.1.length).length ≤ _ ∧ ∀ x ∈ q.1 ++ D q.1.length, _
  refine ⟨by rw [List.length_append]; have h1 := (hg2 q.1.length).1; have h5 := h.1; omega, fun x hx => ?_⟩
  rcases List.mem_append.1 hx with hx | hx
  ·exact h.2 x hx
  ·exact (hg2 _).2 x hx
 | some T =>
  obtain ⟨k1, k3, g1, g3', hk⟩ := hg
  have g3 : GB k3 M D := g3'
  show (q.1 ++ T q.1.length ++ D (q.1.length + (T q.1.length).length)).length ≤ _ ∧ ∀ x ∈ q.1 ++ T q.1.length ++ D (q.1.length + (T q.1.length).length), _
  refine ⟨by rw [List.length_append, List.length_append]; have h1 := (g1 q.1.length).1; have h3 := (g3 (q.1.length + (T q.1.length).length)).1; have h5 := h.1; omega, fun x hx => ?_⟩
  rcases List.mem_append.1 hx with hx | hx
  ·rcases List.mem_append.1 hx with hx | hx
   ·exact h.2 x hx
   ·exact (g1 _).2 x hx
  ·exact (g3 _).2 x hx
theorem fine_rule {E B : Rd} (hE : Fine M E) (hB : Fine M B) {ts r : List Tk.Tok} {p : Ru.P} (h : rule E B ts = some (p, r)) (ht : Tm M ts) : Tm M r ∧ r.length ≤ ts.length ∧ match p.2.1 with | none => GB (ts.length - r.length) M p.2.2 | some T => ∃ k1 k3, GB k1 M T ∧ GB k3 M p.2.2 ∧ k1 + k3 ≤ ts.length - r.length := by
 unfold rule at h
 split at h
 ·rename_i r0 hw
  simp only [Option.map_eq_some_iff, Prod.mk.injEq] at h
  obtain ⟨⟨G, r2⟩, h1, rfl, rfl⟩ := h
  obtain ⟨d, f⟩ := Tm.want hw ht
  obtain ⟨a, b, c⟩ := hB _ _ _ h1 d
  exact ⟨a, by show r2.length ≤ _; omega, c.up (by show r0.length - r2.length ≤ ts.length - r2.length; omega)⟩
 ·split at h
  ·rename_i r0 hw
   simp only [Option.map_eq_some_iff, Prod.mk.injEq] at h
   obtain ⟨⟨G, r2⟩, h1, rfl, rfl⟩ := h
   obtain ⟨d, f⟩ := Tm.want hw ht
   obtain ⟨a, b, c⟩ := hB _ _ _ h1 d
   exact ⟨a, by show r2.length ≤ _; omega, c.up (by show r0.length - r2.length ≤ ts.length - r2.length; omega)⟩
  ·split at h
   ·simp only [Option.map_eq_some_iff, Prod.mk.injEq] at h
    obtain ⟨⟨G, r2⟩, h1, rfl, rfl⟩ := h
    exact hB _ _ _ h1 ht
   ·simp only [Option.bind_eq_some_iff, Option.map_eq_some_iff, Prod.mk.injEq] at h
    obtain ⟨⟨G0, r0⟩, h0, ⟨G, r2⟩, h1, rfl, rfl⟩ := h
    obtain ⟨a0, b0, c0⟩ := hE _ _ _ h0 ht
    obtain ⟨a, b, c⟩ := hB _ _ _ h1 a0
    simp only at b c
    exact ⟨a, by show r2.length ≤ _; omega, ts.length - r0.length, r0.length - r2.length, c0, c, by show _ ≤ ts.length - r2.length; omega⟩
theorem fine_rulesL {E B : Rd} (hE : Fine M E) (hB : Fine M B) : ∀ (f : Nat) (ps : List Ru.P) (ts : List Tk.Tok) (z : List Ru.P) (k : Nat), rulesL E B f ps ts = some z → Tm M ts → PB k M ps → PB (k + ts.length) M z
 | 0, ps, ts, z, k, e, ht, hp => by
  simp only [rulesL, Option.some.injEq] at e
  subst e
  exact ⟨by have := hp.1; omega, hp.2⟩
 | f + 1, ps, [], z, k, e, ht, hp => by
  simp only [rulesL, Option.some.injEq] at e
  subst e
  exact ⟨by have := hp.1; omega, hp.2⟩
 | f + 1, ps, t :: r, z, k, e, ht, hp => by
  simp only [rulesL, Option.bind_eq_some_iff] at e
  obtain ⟨⟨p, r2⟩, h1, h2⟩ := e
  obtain ⟨a, b, c⟩ := fine_rule hE hB h1 ht
  have hle := Rx.ends_len r2
  have := fine_rulesL hE hB f _ _ _ _ h2 a.ends (hp.snoc c)
  refine ⟨?_, this.2⟩
  have h9 := this.1
  simp only at h9
  omega
theorem fine_all {ts : List Tk.Tok} {ps : List Ru.P} (h : rules (SE 30).2 (block (ST 30)) ts = some ps) (ht : Tm M ts) : (Fl.prog ps).1.length ≤ ts.length ∧ ∀ p ∈ (Fl.prog ps).1, p.text.size ≤ M ∧ p.kids.length ≤ 1000 := by
 unfold rules at h
 have h0 : PB 0 M [] := ⟨Nat.le_refl _, fun p hp => by simp [Fl.prog] at hp⟩
 have := fine_rulesL (fine_SE 30).2 (fine_block (fine_ST 30) (shs_ST 30)) _ _ _ _ _ h ht.ends h0
 have hle := Rx.ends_len ts
 exact ⟨by have := this.1; omega, this.2⟩
end
end Ip
end PartRsP
section PartRiC
open Go.RowKit
theorem close_index (d : List UInt8) (b : Nat) : (Lib.indexByte d 93 = -1 → Pp.close d b = b + d.length) ∧ ∀ i : Nat, Lib.indexByte d 93 = (i : Int) → Pp.close d b = b + i := by
 induction d generalizing b with
 | nil => exact ⟨fun _ => rfl, fun i h => by simp [Lib.indexByte] at h⟩
 | cons c r ih =>
  rw [Pp.close]
  unfold Lib.indexByte
  by_cases hc : c = 93
  ·subst hc
   simp only [↓reduceIte, beq_self_eq_true]
   exact ⟨fun h => by omega, fun i h => by omega⟩
  ·have hc2 : (c == 93) = false := by simpa using hc
   simp only [hc, hc2, Bool.false_eq_true, ↓reduceIte]
   have hge := Lib.indexByte_ge r 93
   obtain ⟨i1, i2⟩ := ih (b + 1)
   by_cases hm : Lib.indexByte r 93 = -1
   ·have hm2 : (Lib.indexByte r 93 == -1) = true := by rw [hm]; rfl
    simp only [hm2, ↓reduceIte]
    refine ⟨fun _ => ?_, fun i h => by omega⟩
    rw [i1 hm]
    simp
    omega
   ·have hm2 : (Lib.indexByte r 93 == -1) = false := by simpa using hm
    simp only [hm2, Bool.false_eq_true, ↓reduceIte]
    refine ⟨fun h => by omega, fun i h => ?_⟩
    obtain ⟨j, rfl⟩ : ∃ j, i = j + 1 := ⟨i - 1, by omega⟩
    rw [i2 j (by omega)]
    omega
theorem RiPost.next {B g N N' : Nat} {l : List UInt8} {w w1 w' : World} {R R' : Option (Nat × List Pp.Pc × Nat)} {e : Ending} (h : RiPost B g l w1 N R e w') (hf : FB g B w w1) (hN : N ≤ N') (hR : R' = R) : RiPost B g l w N' R' e w' := by
 subst hR
 refine ⟨hf.trans h.1, ?_⟩
 have h2 := h.2
 cases R' with
 | none => obtain ⟨k, a, v, n, cs, h1, h2, h3, h4⟩ := h2; exact ⟨k, a, v, n, cs, h1, h2, h3, by omega⟩
 | some r => exact h2
set_option maxRecDepth 100000 in
theorem put_ok {ps : List Pp.Pc} {p : Pp.Pc} (h : ps.length ≤ 59) : Pp.put ps p = some (ps ++ [p], ps.length) := by
 unfold Pp.put
 rw [if_neg (by omega)]
def RiC (B g : Nat) (l : List UInt8) (fid : Nat) (F : Nat → Nat → List Pp.Pc → Option (Nat × List Pp.Pc × Nat)) (c f : Nat) : Prop :=
 ∀ (a : Nat) (v : Value) (ps : List Pp.Pc) (w : World), Ri w g l a v → RP B w v ps → B ≤ w.heap.size → a ≤ l.length → ps.length + 2 * (l.length - a) ≤ 50 → 4 * (l.length - a) + c ≤ f →
  Calls Tryz.prog fid #[.pointer (some ⟨g, 0, none⟩)] w (RiPost B g l w (100 + f) (F f a ps))
theorem FB.put {g B : Nat} {w : World} (o : Nat) (u : Value) : FB g B w (w.setCell ⟨g, o, none⟩ u) := (FB.refl g B w).setg o u
def setR (l : List UInt8) (ps : List Pp.Pc) (b op : Nat) : Option (Nat × List Pp.Pc × Nat) :=
 if Pp.close (l.drop b) b = l.length ∨ Pp.close (l.drop b) b = b then none else (Pp.put ps ⟨op, (l.drop b).take (Pp.close (l.drop b) b - b), []⟩).map fun (o, k) => (Pp.close (l.drop b) b + 1, o, k)
theorem set_neg (l : List UInt8) (ps : List Pp.Pc) (a : Nat) (h : l[a]? = some 94) : Pp.set l a ps = setR l ps (a + 1) 4 := by
 have e2 : (l[a]? == some 94) = true := by rw [h]; rfl
 unfold Pp.set
 simp only [e2, ↓reduceIte]
 rfl
theorem set_pos (l : List UInt8) (ps : List Pp.Pc) (a : Nat) (h : ¬ l[a]? = some 94) : Pp.set l a ps = setR l ps a 3 := by
 have e2 : (l[a]? == some 94) = false := by simpa using h
 unfold Pp.set
 simp only [e2, Bool.false_eq_true, ↓reduceIte]
 rfl
set_option maxHeartbeats 1000000 in
set_option maxRecDepth 100000 in
theorem riSet_any (B g a : Nat) (l : List UInt8) (v : Value) (ps : List Pp.Pc) (w : World) (h : Ri w g l a v) (hr : RP B w v ps) (hg : g < B) (hB : B ≤ w.heap.size) (ha : a ≤ l.length) (hl : l.length ≤ 24) (hn : ps.length ≤ 55) :
  Calls Tryz.prog 183 #[.pointer (some ⟨g, 0, none⟩)] w (RiPost B g l w 60 (Pp.set l a ps)) := by
 have key : ∀ (b op : Nat) (w1 : World), FB g B w w1 → Ri w1 g l b v → RP B w1 v ps → b ≤ l.length → B ≤ w1.heap.size →
   ∃ (x : ByteArray), w1.cell? ⟨g, 0, none⟩ = some (.string x) ∧ w1.frozen? ⟨g, 0, none⟩ = false ∧ x.size ≤ 24 ∧
    ((Lib.indexByte x.data.toList 93 = -1 ∧ RiPost B g l w 60 (setR l ps b op) (.returned (.tuple #[.int .i64 0, .bool false])) w1) ∨
     (∃ i : Nat, Lib.indexByte x.data.toList 93 = (i : Int) ∧ (i = 0 → RiPost B g l w 60 (setR l ps b op) (.returned (.tuple #[.int .i64 0, .bool false])) w1) ∧
      (0 < i → i < x.size ∧ x.extract 0 i = tx ((l.drop b).take i) ∧ Ri (w1.setCell ⟨g, 0, none⟩ (.string (x.extract (i + 1) x.size))) g l (b + i + 1) v ∧
       (setR l ps b op) = some (b + i + 1, ps ++ [⟨op, (l.drop b).take i, []⟩], ps.length)))) := by
  intro b op w1 hf hri hrp hbl hB1
  obtain ⟨c0, c1, f0, f1⟩ := cells2 hri
  obtain ⟨cs, hp⟩ := hrp.pr
  have hdl : (l.drop b).length = l.length - b := by simp
  refine ⟨tx (l.drop b), c0, f0, by rw [tx_size]; omega, ?_⟩
  rw [tx_list]
  obtain ⟨k1, k2⟩ := close_index (l.drop b) b
  have hge := Lib.indexByte_ge (l.drop b) 93
  by_cases hm : Lib.indexByte (l.drop b) 93 = -1
  ·left
   refine ⟨hm, ?_⟩
   unfold setR
   rw [k1 hm, if_pos (by left; omega)]
   exact ⟨hf, 0, b, v, _, cs, rfl, hri, hp, by omega⟩
  ·right
   obtain ⟨i, hi⟩ : ∃ i : Nat, Lib.indexByte (l.drop b) 93 = (i : Int) := ⟨(Lib.indexByte (l.drop b) 93).toNat, by omega⟩
   have hlt : i < l.length - b := by
    have := (Lib.indexByte_some hi).1
    have := (List.getElem?_eq_some_iff.1 this).1
    omega
   refine ⟨i, hi, fun h0 => ?_, fun h0 => ⟨by rw [tx_size]; omega, ?_, ?_, ?_⟩⟩
   ·unfold setR
    rw [k2 i hi, if_pos (by right; omega)]
    exact ⟨hf, 0, b, v, _, cs, rfl, hri, hp, by omega⟩
   ·rw [ext_take, tx_list]; simp
   ·have e : (tx (l.drop b)).extract (i + 1) (tx (l.drop b)).size = tx (l.drop (b + i + 1)) := by
     rw [ext_take, tx_list, tx_size, List.take_of_length_le (by simp; omega), List.drop_drop, Nat.add_assoc]
    rw [e]
    exact setA hri _
   ·unfold setR
    rw [k2 i hi, if_neg (by omega), put_ok (by omega)]
    simp only [Option.map_some, Nat.add_sub_cancel_left]
 have fin : ∀ (b op i : Nat) (w1 : World) (x : ByteArray), FB g B w w1 → Ri w1 g l (b + i + 1) v → RP B w1 v ps → B ≤ w1.heap.size → x = tx ((l.drop b).take i) →
   Calls Tryz.prog 156 #[.pointer (some ⟨g, 0, none⟩), .int .i64 (op : Int), .string x, .slice none 0 0] w1 fun e w' => ∃ k : Nat, e = .returned (.int .i64 (k : Int)) ∧ RiPost B g l w 60 (some (b + i + 1, ps ++ [⟨op, (l.drop b).take i, []⟩], ps.length)) (.returned (.tuple #[.int .i64 (k : Int), .bool true])) w' := by
  intro b op i w1 x hf hri hrp hB1 hx
  refine (riAdd0 B g (b + i + 1) op l x _ v ps w1 hri hrp hg hB1 (by omega) hx (by simp; omega)).mono ?_
  rintro e w' ⟨rfl, hfb, v', h1, h2⟩
  exact ⟨ps.length, rfl, hf.trans hfb, rfl, v', h1, h2⟩
 have HFIN : Hid _ := fin
 have HKEY : Hid _ := key
 clear fin key
 by_cases hneg : l[a]? = some 94
 ·rw [set_neg l ps a hneg]
  have hlt := Pp.lt_of_get hneg
  have CN : Hid (Calls Tryz.prog 154 #[.pointer (some ⟨g, 0, none⟩), .string ⟨#[94]⟩] w fun e w' => e = .returned (.bool true) ∧ w' = w) := nextYes g a l [94] 94 v w h hneg (by simp)
  have CT : Hid (Calls Tryz.prog 155 #[.pointer (some ⟨g, 0, none⟩)] w fun e w' => e = .returned (.string ⟨#[94]⟩) ∧ Ri w' g l (a + 1) v ∧ (∃ u, w' = w.setCell ⟨g, 0, none⟩ u)) := take_any g a l 94 v w h hneg
  have HR : Hid (RP B w v ps) := hr
  clear h hr hneg
  go_enter Tryz.func183, Tryz.ntmps183
  go_wp2_with fail
  refine CN.out.mono ?_
  rintro e w0 ⟨rfl, hw0⟩
  rw [hw0]
  clear hw0
  go_wp2_with fail
  refine CT.out.mono ?_
  rintro e w1 ⟨rfl, hri, u, rfl⟩
  obtain ⟨x, x0, y0, hx24, hcase⟩ := HKEY.out (a + 1) 4 _ (FB.put 0 u) hri (HR.out.setg hg 0 u) (by omega) (by simpa [World.setCell] using hB)
  have HF : Hid (FB g B w (w.setCell ⟨g, 0, none⟩ u)) := FB.put 0 u
  have HR1 : Hid (RP B (w.setCell ⟨g, 0, none⟩ u) v ps) := HR.out.setg hg 0 u
  have hB1 : B ≤ (w.setCell ⟨g, 0, none⟩ u).heap.size := by simpa [World.setCell] using hB
  obtain ⟨w1, hw1⟩ : ∃ w1, w1 = w.setCell ⟨g, 0, none⟩ u := ⟨_, rfl⟩
  rw [← hw1] at x0 y0 hcase HF HR1 hB1 ⊢
  have HCS : Hid _ := hcase
  clear hri CN CT HKEY hw1 HR hcase
  go_wp2_with fail
  refine (cut93_any x _ (by omega)).mono ?_
  rintro e w2 ⟨⟨kd, rfl⟩, hc⟩
  rcases hc with ⟨hm, rfl⟩ | ⟨i, hi, hix, rfl⟩
  ·have HP : Hid (RiPost B g l w 60 (setR l ps (a + 1) 4) (.returned (.tuple #[.int .i64 0, .bool false])) w1) := by
    rcases HCS.out with ⟨_, hp⟩ | ⟨i, hi, _⟩
    ·exact hp
    ·rw [hm] at hi; omega
   clear HCS hm
   go_wp2
   (try simp only [Exit.inBlock, Exit.then])
   refine bodyPost_ret (results_tmp2 rfl _ _ _) rfl ?_
   exact HP.out
  ·by_cases hi0 : i = 0
   ·have HP : Hid (RiPost B g l w 60 (setR l ps (a + 1) 4) (.returned (.tuple #[.int .i64 0, .bool false])) w1) := by
     rcases HCS.out with ⟨hm, _⟩ | ⟨j, hj, h0, _⟩
     ·rw [hm] at hi; omega
     ·exact h0 (by rw [hi] at hj; omega)
    have hex : (x.extract 0 i).toList.isEmpty = true := by
     rw [Lib.toList_data, ext_take, hi0]
     simp
    clear HCS hi hi0
    go_wp2
    (try simp only [Exit.inBlock, Exit.then])
    refine bodyPost_ret (results_tmp2 rfl _ _ _) rfl ?_
    exact HP.out
   ·obtain ⟨he, hri, hT⟩ : x.extract 0 i = tx ((l.drop (a + 1)).take i) ∧ Ri (w1.setCell ⟨g, 0, none⟩ (.string (x.extract (i + 1) x.size))) g l ((a + 1) + i + 1) v ∧ setR l ps (a + 1) 4 = some ((a + 1) + i + 1, ps ++ [⟨4, (l.drop (a + 1)).take i, []⟩], ps.length) := by
     rcases HCS.out with ⟨hm, _⟩ | ⟨j, hj, _, h1⟩
     ·rw [hm] at hi; omega
     ·obtain rfl : j = i := by rw [hi] at hj; omega
      obtain ⟨_, h2, h3, h4⟩ := h1 (by omega)
      exact ⟨h2, h3, h4⟩
    have hex : (x.extract 0 i).toList.isEmpty = false := by
     rw [Lib.toList_data, ext_take]
     have hln : x.data.toList.length = x.size := by simp
     cases hq : x.data.toList with
     | nil => rw [hq] at hln; simp at hln; omega
     | cons c r =>
      obtain ⟨j, rfl⟩ : ∃ j, i = j + 1 := ⟨i - 1, by omega⟩
      simp
    have HT : Hid (setR l ps (a + 1) 4 = some ((a + 1) + i + 1, ps ++ [⟨4, (l.drop (a + 1)).take i, []⟩], ps.length)) := hT
    have HRI : Hid (Ri (w1.setCell ⟨g, 0, none⟩ (.string (x.extract (i + 1) x.size))) g l ((a + 1) + i + 1) v) := hri
    have HE : Hid (x.extract 0 i = tx ((l.drop (a + 1)).take i)) := he
    clear HCS hi hT hri he hi0
    go_wp2_with fail
    refine (HFIN.out (a + 1) 4 i _ _ (FB.setg (FB.draw HF.out kd) 0 _) HRI.out (RP.setg (RP.draw HR1.out kd) hg 0 _) (by simpa [World.setCell] using hB1) HE.out).mono ?_
    rintro e w6 ⟨k, rfl, hpo⟩
    have HPO : Hid (RiPost B g l w 60 (setR l ps (a + 1) 4) (.returned (.tuple #[.int .i64 (k : Int), .bool true])) w6) := by
     show RiPost B g l w 60 (setR l ps (a + 1) 4) (.returned (.tuple #[.int .i64 (k : Int), .bool true])) w6
     rw [HT.out]
     exact hpo
    clear hpo
    go_wp2
    (try simp only [Exit.inBlock, Exit.then])
    refine bodyPost_ret (results_tmp2 rfl _ _ _) rfl ?_
    exact HPO.out
 ·rw [set_pos l ps a hneg]
  have CN : Hid (Calls Tryz.prog 154 #[.pointer (some ⟨g, 0, none⟩), .string ⟨#[94]⟩] w fun e w' => e = .returned (.bool false) ∧ w' = w) := nextNo g a l [94] v w h (fun b hb e => hneg (by rw [hb, List.mem_singleton.1 e]))
  obtain ⟨x, x0, y0, hx24, hcase⟩ := HKEY.out a 3 w (FB.refl g B w) h hr ha hB
  have HF : Hid (FB g B w w) := FB.refl g B w
  have HR1 : Hid (RP B w v ps) := hr
  have hB1 := hB
  have HCS : Hid _ := hcase
  clear h hr hneg HKEY hcase
  go_enter Tryz.func183, Tryz.ntmps183
  go_wp2_with fail
  refine CN.out.mono ?_
  rintro e w0 ⟨rfl, hw0⟩
  rw [hw0]
  clear hw0
  go_wp2_with fail
  refine (cut93_any x _ (by omega)).mono ?_
  rintro e w2 ⟨⟨kd, rfl⟩, hc⟩
  rcases hc with ⟨hm, rfl⟩ | ⟨i, hi, hix, rfl⟩
  ·have HP : Hid (RiPost B g l w 60 (setR l ps a 3) (.returned (.tuple #[.int .i64 0, .bool false])) w) := by
    rcases HCS.out with ⟨_, hp⟩ | ⟨i, hi, _⟩
    ·exact hp
    ·rw [hm] at hi; omega
   clear HCS hm
   go_wp2
   (try simp only [Exit.inBlock, Exit.then])
   refine bodyPost_ret (results_tmp2 rfl _ _ _) rfl ?_
   exact HP.out
  ·by_cases hi0 : i = 0
   ·have HP : Hid (RiPost B g l w 60 (setR l ps a 3) (.returned (.tuple #[.int .i64 0, .bool false])) w) := by
     rcases HCS.out with ⟨hm, _⟩ | ⟨j, hj, h0, _⟩
     ·rw [hm] at hi; omega
     ·exact h0 (by rw [hi] at hj; omega)
    have hex : (x.extract 0 i).toList.isEmpty = true := by
     rw [Lib.toList_data, ext_take, hi0]
     simp
    clear HCS hi hi0
    go_wp2
    (try simp only [Exit.inBlock, Exit.then])
    refine bodyPost_ret (results_tmp2 rfl _ _ _) rfl ?_
    exact HP.out
   ·obtain ⟨he, hri, hT⟩ : x.extract 0 i = tx ((l.drop a).take i) ∧ Ri (w.setCell ⟨g, 0, none⟩ (.string (x.extract (i + 1) x.size))) g l (a + i + 1) v ∧ setR l ps a 3 = some (a + i + 1, ps ++ [⟨3, (l.drop a).take i, []⟩], ps.length) := by
     rcases HCS.out with ⟨hm, _⟩ | ⟨j, hj, _, h1⟩
     ·rw [hm] at hi; omega
     ·obtain rfl : j = i := by rw [hi] at hj; omega
      obtain ⟨_, h2, h3, h4⟩ := h1 (by omega)
      exact ⟨h2, h3, h4⟩
    have hex : (x.extract 0 i).toList.isEmpty = false := by
     rw [Lib.toList_data, ext_take]
     have hln : x.data.toList.length = x.size := by simp
     cases hq : x.data.toList with
     | nil => rw [hq] at hln; simp at hln; omega
     | cons c r =>
      obtain ⟨j, rfl⟩ : ∃ j, i = j + 1 := ⟨i - 1, by omega⟩
      simp
    have HT : Hid (setR l ps a 3 = some (a + i + 1, ps ++ [⟨3, (l.drop a).take i, []⟩], ps.length)) := hT
    have HRI : Hid (Ri (w.setCell ⟨g, 0, none⟩ (.string (x.extract (i + 1) x.size))) g l (a + i + 1) v) := hri
    have HE : Hid (x.extract 0 i = tx ((l.drop a).take i)) := he
    clear HCS hi hT hri he hi0
    go_wp2_with fail
    refine (HFIN.out a 3 i _ _ (FB.setg (FB.draw HF.out kd) 0 _) HRI.out (RP.setg (RP.draw HR1.out kd) hg 0 _) (by simpa [World.setCell] using hB1) HE.out).mono ?_
    rintro e w6 ⟨k, rfl, hpo⟩
    have HPO : Hid (RiPost B g l w 60 (setR l ps a 3) (.returned (.tuple #[.int .i64 (k : Int), .bool true])) w6) := by
     show RiPost B g l w 60 (setR l ps a 3) (.returned (.tuple #[.int .i64 (k : Int), .bool true])) w6
     rw [HT.out]
     exact hpo
    clear hpo
    go_wp2
    (try simp only [Exit.inBlock, Exit.then])
    refine bodyPost_ret (results_tmp2 rfl _ _ _) rfl ?_
    exact HPO.out
end PartRiC
section PartRiD
open Go.RowKit
set_option maxHeartbeats 1000000 in
set_option maxRecDepth 100000 in
theorem riBracket (B g : Nat) (l : List UInt8) (f : Nat) (hg : g < B) (hA : RiC B g l 132 (Pp.alt l) 4 f) (a : Nat) (v : Value) (ps : List Pp.Pc) (w : World) (h : Ri w g l a v) (hr : RP B w v ps) (hB : B ≤ w.heap.size) (ha : a ≤ l.length) (hn : ps.length + 2 * (l.length - a) ≤ 50) (hd : 4 * (l.length - a) + 4 ≤ f) :
  Calls Tryz.prog 184 #[.pointer (some ⟨g, 0, none⟩)] w (RiPost B g l w (100 + f) (match Pp.alt l f a ps with
   | none => none
   | some (e, o, k) => if l[e]? = some 41 then some (e + 1, o, k) else none)) := by
 have HA : Hid (Calls Tryz.prog 132 #[.pointer (some ⟨g, 0, none⟩)] w (RiPost B g l w (100 + f) (Pp.alt l f a ps))) := hA a v ps w h hr hB ha hn hd
 obtain ⟨R, hR⟩ : ∃ R, R = (match Pp.alt l f a ps with
   | none => none
   | some (e, o, k) => if l[e]? = some 41 then some (e + 1, o, k) else none) := ⟨_, rfl⟩
 rw [← hR]
 have HR : Hid (R = (match Pp.alt l f a ps with
   | none => none
   | some (e, o, k) => if l[e]? = some 41 then some (e + 1, o, k) else none)) := hR
 clear hA hR h hr
 go_enter Tryz.func184, Tryz.ntmps184
 go_wp2_with fail
 refine HA.out.mono ?_
 intro e w1 hpost
 clear HA
 obtain ⟨hfb, hpost⟩ := hpost
 have HF : Hid (FB g B w w1) := hfb
 have hB1 : B ≤ w1.heap.size := by have := hfb.1; omega
 clear hfb
 cases hA : Pp.alt l f a ps with
 | none =>
  rw [hA] at hpost
  obtain ⟨k, a', v', n', cs', rfl, h1, h2, h3⟩ := hpost
  have HRN : Hid (R = none) := by show _ = _; rw [HR.out, hA]
  clear HR hA
  go_wp2
  (try simp only [Exit.inBlock, Exit.then])
  refine bodyPost_ret (results_tmp2 rfl _ _ _) rfl ?_
  rw [HRN.out]
  exact ⟨HF.out, _, a', v', n', cs', rfl, h1, h2, h3⟩
 | some r =>
  obtain ⟨e5, o5, k5⟩ := r
  rw [hA] at hpost
  obtain ⟨rfl, v5, r5, p5⟩ := hpost
  have HR5 : Hid (Ri w1 g l e5 v5) := r5
  have HP5 : Hid (RP B w1 v5 o5) := p5
  have hlen : o5.length ≤ 60 := by have := (Pp.bd l f).alt a ps e5 o5 k5 ha hA; omega
  by_cases h41 : l[e5]? = some 41
  ·have HRS : Hid (R = some (e5 + 1, o5, k5)) := by show _ = _; rw [HR.out, hA]; simp only [h41, ↓reduceIte]
   have CN : Hid (Calls Tryz.prog 154 #[.pointer (some ⟨g, 0, none⟩), .string ⟨#[41]⟩] w1 fun e w' => e = .returned (.bool true) ∧ w' = w1) := nextYes g e5 l [41] 41 v5 w1 r5 h41 (by simp)
   have CT : Hid (Calls Tryz.prog 155 #[.pointer (some ⟨g, 0, none⟩)] w1 fun e w' => e = .returned (.string ⟨#[41]⟩) ∧ Ri w' g l (e5 + 1) v5 ∧ (∃ u, w' = w1.setCell ⟨g, 0, none⟩ u)) := take_any g e5 l 41 v5 w1 r5 h41
   clear HR hA h41 r5 p5
   go_wp2_with fail
   refine CN.out.mono ?_
   rintro e w0 ⟨rfl, hw0⟩
   rw [hw0]
   clear hw0
   go_wp2_with fail
   refine CT.out.mono ?_
   rintro e w2 ⟨rfl, r6, u, rfl⟩
   go_wp2
   (try simp only [Exit.inBlock, Exit.then])
   refine bodyPost_ret (results_tmp2 rfl _ _ _) rfl ?_
   rw [HRS.out]
   exact ⟨HF.out.setg 0 u, rfl, v5, r6, HP5.out.setg hg 0 u⟩
  ·have HRN : Hid (R = none) := by show _ = _; rw [HR.out, hA]; simp only [h41, ↓reduceIte]
   have CN : Hid (Calls Tryz.prog 154 #[.pointer (some ⟨g, 0, none⟩), .string ⟨#[41]⟩] w1 fun e w' => e = .returned (.bool false) ∧ w' = w1) := nextNo g e5 l [41] v5 w1 r5 (fun b hb e => h41 (by rw [hb, List.mem_singleton.1 e]))
   obtain ⟨cs5, q5⟩ := p5.pr
   clear HR hA h41 p5
   go_wp2_with fail
   refine CN.out.mono ?_
   rintro e w0 ⟨rfl, hw0⟩
   rw [hw0]
   clear hw0
   go_wp2
   (try simp only [Exit.inBlock, Exit.then])
   refine bodyPost_ret (results_tmp2 rfl _ _ _) rfl ?_
   rw [HRN.out]
   exact ⟨HF.out, _, e5, v5, _, cs5, rfl, r5, q5, by omega⟩
theorem RiPost.ret {B g N : Nat} {l : List UInt8} {w w' : World} {R : Option (Nat × List Pp.Pc × Nat)} {e : Ending} (h : RiPost B g l w N R e w') : ∃ (k : Int) (b : Bool), e = .returned (.tuple #[.int .i64 k, .bool b]) := by
 obtain ⟨_, h⟩ := h
 cases R with
 | none => obtain ⟨k, _, _, _, _, e, _⟩ := h; exact ⟨k, _, e⟩
 | some r => exact ⟨_, _, h.1⟩
theorem special_mem (b : UInt8) : Pp.special b = true ↔ b ∈ ([42, 43, 63, 124, 40, 41, 91, 93, 46, 94, 36, 92] : List UInt8) := by
 unfold Pp.special
 rw [List.contains_iff_mem]
set_option maxHeartbeats 1000000 in
set_option maxRecDepth 100000 in
theorem riThing_b94 (B g : Nat) (l : List UInt8) (f : Nat) (hg : g < B) (_hl : l.length ≤ 24) (a : Nat) (v : Value) (ps : List Pp.Pc) (w : World) (h : Ri w g l a v) (hr : RP B w v ps) (hB : B ≤ w.heap.size) (hn : ps.length + 2 * (l.length - a) ≤ 50) (hb : l[a]? = some 94) :
  Calls Tryz.prog 178 #[.pointer (some ⟨g, 0, none⟩)] w (RiPost B g l w (100 + (f + 1)) (Pp.thing l (f + 1) a ps)) := by
 have hlt := Pp.lt_of_get hb
 have HE : Hid (Pp.thing l (f + 1) a ps = some (a + 1, ps ++ [⟨10, [], []⟩], ps.length)) := by
  show _ = _
  rw [Pp.thing, hb]
  show (Pp.put ps ⟨10, [], []⟩).map _ = _
  rw [put_ok (by omega)]
  rfl
 have CN : Hid (Calls Tryz.prog 154 #[.pointer (some ⟨g, 0, none⟩), .string ⟨#[42, 43, 63, 124, 40, 41, 91, 93, 46, 94, 36, 92]⟩] w fun e w' => e = .returned (.bool true) ∧ w' = w) := nextYes g a l [42, 43, 63, 124, 40, 41, 91, 93, 46, 94, 36, 92] 94 v w h hb (by decide)
 have CT : Hid (Calls Tryz.prog 155 #[.pointer (some ⟨g, 0, none⟩)] w fun e w' => e = .returned (.string ⟨#[94]⟩) ∧ Ri w' g l (a + 1) v ∧ (∃ u, w' = w.setCell ⟨g, 0, none⟩ u)) := take_any g a l 94 v w h hb
 have HR : Hid (RP B w v ps) := hr
 clear h hr
 clear hb
 go_enter Tryz.func178, Tryz.ntmps178
 go_wp2_with fail
 refine CN.out.mono ?_
 rintro e w0 ⟨rfl, hw0⟩
 rw [hw0]
 clear hw0
 go_wp2_with fail
 refine CT.out.mono ?_
 rintro e w1 ⟨rfl, r1, u, rfl⟩
 have HR1 : Hid (RP B (w.setCell ⟨g, 0, none⟩ u) v ps) := HR.out.setg hg 0 u
 have HF1 : Hid (FB g B w (w.setCell ⟨g, 0, none⟩ u)) := FB.put 0 u
 have hB1 : B ≤ (w.setCell ⟨g, 0, none⟩ u).heap.size := by simpa [World.setCell] using hB
 obtain ⟨w1, hw1⟩ : ∃ w1, w1 = w.setCell ⟨g, 0, none⟩ u := ⟨_, rfl⟩
 rw [← hw1] at r1 HR1 HF1 hB1 ⊢
 clear hw1 CN CT HR
 go_wp2_with fail
 refine (riAdd0 B g (a + 1) 10 l _ [] v ps _ r1 HR1.out hg hB1 (by omega) rfl (by simp)).mono ?_
 rintro e w2 ⟨rfl, hfb, v2, r2, p2⟩
 have HP2 : Hid (RP B w2 v2 (ps ++ [⟨10, [], []⟩])) := p2
 have HF2 : Hid (FB g B w w2) := HF1.out.trans hfb
 clear p2 hfb
 go_wp2
 (try simp only [Exit.inBlock, Exit.then])
 refine bodyPost_ret (results_tmp2 rfl _ _ _) rfl ?_
 rw [HE.out]
 exact ⟨HF2.out, rfl, v2, r2, HP2.out⟩
set_option maxHeartbeats 1000000 in
set_option maxRecDepth 100000 in
theorem riThing_b36 (B g : Nat) (l : List UInt8) (f : Nat) (hg : g < B) (_hl : l.length ≤ 24) (a : Nat) (v : Value) (ps : List Pp.Pc) (w : World) (h : Ri w g l a v) (hr : RP B w v ps) (hB : B ≤ w.heap.size) (hn : ps.length + 2 * (l.length - a) ≤ 50) (hb : l[a]? = some 36) :
  Calls Tryz.prog 178 #[.pointer (some ⟨g, 0, none⟩)] w (RiPost B g l w (100 + (f + 1)) (Pp.thing l (f + 1) a ps)) := by
 have hlt := Pp.lt_of_get hb
 have HE : Hid (Pp.thing l (f + 1) a ps = some (a + 1, ps ++ [⟨11, [], []⟩], ps.length)) := by
  show _ = _
  rw [Pp.thing, hb]
  show (Pp.put ps ⟨11, [], []⟩).map _ = _
  rw [put_ok (by omega)]
  rfl
 have CN : Hid (Calls Tryz.prog 154 #[.pointer (some ⟨g, 0, none⟩), .string ⟨#[42, 43, 63, 124, 40, 41, 91, 93, 46, 94, 36, 92]⟩] w fun e w' => e = .returned (.bool true) ∧ w' = w) := nextYes g a l [42, 43, 63, 124, 40, 41, 91, 93, 46, 94, 36, 92] 36 v w h hb (by decide)
 have CT : Hid (Calls Tryz.prog 155 #[.pointer (some ⟨g, 0, none⟩)] w fun e w' => e = .returned (.string ⟨#[36]⟩) ∧ Ri w' g l (a + 1) v ∧ (∃ u, w' = w.setCell ⟨g, 0, none⟩ u)) := take_any g a l 36 v w h hb
 have HR : Hid (RP B w v ps) := hr
 clear h hr
 clear hb
 go_enter Tryz.func178, Tryz.ntmps178
 go_wp2_with fail
 refine CN.out.mono ?_
 rintro e w0 ⟨rfl, hw0⟩
 rw [hw0]
 clear hw0
 go_wp2_with fail
 refine CT.out.mono ?_
 rintro e w1 ⟨rfl, r1, u, rfl⟩
 have HR1 : Hid (RP B (w.setCell ⟨g, 0, none⟩ u) v ps) := HR.out.setg hg 0 u
 have HF1 : Hid (FB g B w (w.setCell ⟨g, 0, none⟩ u)) := FB.put 0 u
 have hB1 : B ≤ (w.setCell ⟨g, 0, none⟩ u).heap.size := by simpa [World.setCell] using hB
 obtain ⟨w1, hw1⟩ : ∃ w1, w1 = w.setCell ⟨g, 0, none⟩ u := ⟨_, rfl⟩
 rw [← hw1] at r1 HR1 HF1 hB1 ⊢
 clear hw1 CN CT HR
 go_wp2_with fail
 refine (riAdd0 B g (a + 1) 11 l _ [] v ps _ r1 HR1.out hg hB1 (by omega) rfl (by simp)).mono ?_
 rintro e w2 ⟨rfl, hfb, v2, r2, p2⟩
 have HP2 : Hid (RP B w2 v2 (ps ++ [⟨11, [], []⟩])) := p2
 have HF2 : Hid (FB g B w w2) := HF1.out.trans hfb
 clear p2 hfb
 go_wp2
 (try simp only [Exit.inBlock, Exit.then])
 refine bodyPost_ret (results_tmp2 rfl _ _ _) rfl ?_
 rw [HE.out]
 exact ⟨HF2.out, rfl, v2, r2, HP2.out⟩
set_option maxHeartbeats 1000000 in
set_option maxRecDepth 100000 in
theorem riThing_b46 (B g : Nat) (l : List UInt8) (f : Nat) (hg : g < B) (_hl : l.length ≤ 24) (a : Nat) (v : Value) (ps : List Pp.Pc) (w : World) (h : Ri w g l a v) (hr : RP B w v ps) (hB : B ≤ w.heap.size) (hn : ps.length + 2 * (l.length - a) ≤ 50) (hb : l[a]? = some 46) :
  Calls Tryz.prog 178 #[.pointer (some ⟨g, 0, none⟩)] w (RiPost B g l w (100 + (f + 1)) (Pp.thing l (f + 1) a ps)) := by
 have hlt := Pp.lt_of_get hb
 have HE : Hid (Pp.thing l (f + 1) a ps = some (a + 1, ps ++ [⟨2, [], []⟩], ps.length)) := by
  show _ = _
  rw [Pp.thing, hb]
  show (Pp.put ps ⟨2, [], []⟩).map _ = _
  rw [put_ok (by omega)]
  rfl
 have CN : Hid (Calls Tryz.prog 154 #[.pointer (some ⟨g, 0, none⟩), .string ⟨#[42, 43, 63, 124, 40, 41, 91, 93, 46, 94, 36, 92]⟩] w fun e w' => e = .returned (.bool true) ∧ w' = w) := nextYes g a l [42, 43, 63, 124, 40, 41, 91, 93, 46, 94, 36, 92] 46 v w h hb (by decide)
 have CT : Hid (Calls Tryz.prog 155 #[.pointer (some ⟨g, 0, none⟩)] w fun e w' => e = .returned (.string ⟨#[46]⟩) ∧ Ri w' g l (a + 1) v ∧ (∃ u, w' = w.setCell ⟨g, 0, none⟩ u)) := take_any g a l 46 v w h hb
 have HR : Hid (RP B w v ps) := hr
 clear h hr
 clear hb
 go_enter Tryz.func178, Tryz.ntmps178
 go_wp2_with fail
 refine CN.out.mono ?_
 rintro e w0 ⟨rfl, hw0⟩
 rw [hw0]
 clear hw0
 go_wp2_with fail
 refine CT.out.mono ?_
 rintro e w1 ⟨rfl, r1, u, rfl⟩
 have HR1 : Hid (RP B (w.setCell ⟨g, 0, none⟩ u) v ps) := HR.out.setg hg 0 u
 have HF1 : Hid (FB g B w (w.setCell ⟨g, 0, none⟩ u)) := FB.put 0 u
 have hB1 : B ≤ (w.setCell ⟨g, 0, none⟩ u).heap.size := by simpa [World.setCell] using hB
 obtain ⟨w1, hw1⟩ : ∃ w1, w1 = w.setCell ⟨g, 0, none⟩ u := ⟨_, rfl⟩
 rw [← hw1] at r1 HR1 HF1 hB1 ⊢
 clear hw1 CN CT HR
 go_wp2_with fail
 refine (riAdd0 B g (a + 1) 2 l _ [] v ps _ r1 HR1.out hg hB1 (by omega) rfl (by simp)).mono ?_
 rintro e w2 ⟨rfl, hfb, v2, r2, p2⟩
 have HP2 : Hid (RP B w2 v2 (ps ++ [⟨2, [], []⟩])) := p2
 have HF2 : Hid (FB g B w w2) := HF1.out.trans hfb
 clear p2 hfb
 go_wp2
 (try simp only [Exit.inBlock, Exit.then])
 refine bodyPost_ret (results_tmp2 rfl _ _ _) rfl ?_
 rw [HE.out]
 exact ⟨HF2.out, rfl, v2, r2, HP2.out⟩
set_option maxHeartbeats 1000000 in
set_option maxRecDepth 100000 in
theorem riThing_other (B g : Nat) (l : List UInt8) (f : Nat) (hg : g < B) (_hl : l.length ≤ 24) (a : Nat) (v : Value) (ps : List Pp.Pc) (w : World) (h : Ri w g l a v) (hr : RP B w v ps) (hB : B ≤ w.heap.size) (hn : ps.length + 2 * (l.length - a) ≤ 50) (b : UInt8) (hb : l[a]? = some b) (hs : Pp.special b = false) :
  Calls Tryz.prog 178 #[.pointer (some ⟨g, 0, none⟩)] w (RiPost B g l w (100 + (f + 1)) (Pp.thing l (f + 1) a ps)) := by
 have hlt := Pp.lt_of_get hb
 have hne : ∀ c : UInt8, Pp.special c = true → ¬ b = c := fun c hc e => by rw [← e, hs] at hc; cases hc
 have HE : Hid (Pp.thing l (f + 1) a ps = some (a + 1, ps ++ [⟨1, [b], []⟩], ps.length)) := by
  show _ = _
  rw [Pp.thing, hb]
  simp only [hne 94 rfl, hne 36 rfl, hne 46 rfl, hne 91 rfl, hne 40 rfl, hne 92 rfl, hs, Bool.false_eq_true, ↓reduceIte]
  rw [put_ok (by omega)]
  rfl
 have CN : Hid (Calls Tryz.prog 154 #[.pointer (some ⟨g, 0, none⟩), .string ⟨#[42, 43, 63, 124, 40, 41, 91, 93, 46, 94, 36, 92]⟩] w fun e w' => e = .returned (.bool false) ∧ w' = w) := nextNo g a l [42, 43, 63, 124, 40, 41, 91, 93, 46, 94, 36, 92] v w h (fun c hc e => by have hbc := Option.some.inj (hb.symm.trans hc); rw [← hbc] at e; rw [(special_mem b).2 e] at hs; cases hs)
 have CT : Hid (Calls Tryz.prog 155 #[.pointer (some ⟨g, 0, none⟩)] w fun e w' => e = .returned (.string ⟨#[b]⟩) ∧ Ri w' g l (a + 1) v ∧ (∃ u, w' = w.setCell ⟨g, 0, none⟩ u)) := take_any g a l b v w h hb
 have HR : Hid (RP B w v ps) := hr
 clear h hr
 clear hne hs hb
 go_enter Tryz.func178, Tryz.ntmps178
 go_wp2_with fail
 refine CN.out.mono ?_
 rintro e w0 ⟨rfl, hw0⟩
 rw [hw0]
 clear hw0
 go_wp2_with fail
 refine CT.out.mono ?_
 rintro e w1 ⟨rfl, r1, u, rfl⟩
 have HR1 : Hid (RP B (w.setCell ⟨g, 0, none⟩ u) v ps) := HR.out.setg hg 0 u
 have HF1 : Hid (FB g B w (w.setCell ⟨g, 0, none⟩ u)) := FB.put 0 u
 have hB1 : B ≤ (w.setCell ⟨g, 0, none⟩ u).heap.size := by simpa [World.setCell] using hB
 obtain ⟨w1, hw1⟩ : ∃ w1, w1 = w.setCell ⟨g, 0, none⟩ u := ⟨_, rfl⟩
 rw [← hw1] at r1 HR1 HF1 hB1 ⊢
 clear hw1 CN CT HR
 go_wp2_with fail
 refine (riAdd0 B g (a + 1) 1 l _ [b] v ps _ r1 HR1.out hg hB1 (by omega) rfl (by simp)).mono ?_
 rintro e w2 ⟨rfl, hfb, v2, r2, p2⟩
 have HP2 : Hid (RP B w2 v2 (ps ++ [⟨1, [b], []⟩])) := p2
 have HF2 : Hid (FB g B w w2) := HF1.out.trans hfb
 clear p2 hfb
 go_wp2
 (try simp only [Exit.inBlock, Exit.then])
 refine bodyPost_ret (results_tmp2 rfl _ _ _) rfl ?_
 rw [HE.out]
 exact ⟨HF2.out, rfl, v2, r2, HP2.out⟩
set_option maxHeartbeats 1000000 in
set_option maxRecDepth 100000 in
theorem riThing_b91 (B g : Nat) (l : List UInt8) (f : Nat) (hg : g < B) (hl : l.length ≤ 24) (a : Nat) (v : Value) (ps : List Pp.Pc) (w : World) (h : Ri w g l a v) (hr : RP B w v ps) (hB : B ≤ w.heap.size) (hn : ps.length + 2 * (l.length - a) ≤ 50) (hb : l[a]? = some 91) :
  Calls Tryz.prog 178 #[.pointer (some ⟨g, 0, none⟩)] w (RiPost B g l w (100 + (f + 1)) (Pp.thing l (f + 1) a ps)) := by
 have hlt := Pp.lt_of_get hb
 have HE : Hid (Pp.thing l (f + 1) a ps = Pp.set l (a + 1) ps) := by
  show _ = _
  rw [Pp.thing, hb]
  rfl
 have CN : Hid (Calls Tryz.prog 154 #[.pointer (some ⟨g, 0, none⟩), .string ⟨#[42, 43, 63, 124, 40, 41, 91, 93, 46, 94, 36, 92]⟩] w fun e w' => e = .returned (.bool true) ∧ w' = w) := nextYes g a l [42, 43, 63, 124, 40, 41, 91, 93, 46, 94, 36, 92] 91 v w h hb (by decide)
 have CT : Hid (Calls Tryz.prog 155 #[.pointer (some ⟨g, 0, none⟩)] w fun e w' => e = .returned (.string ⟨#[91]⟩) ∧ Ri w' g l (a + 1) v ∧ (∃ u, w' = w.setCell ⟨g, 0, none⟩ u)) := take_any g a l 91 v w h hb
 have HR : Hid (RP B w v ps) := hr
 clear h hr
 clear hb
 go_enter Tryz.func178, Tryz.ntmps178
 go_wp2_with fail
 refine CN.out.mono ?_
 rintro e w0 ⟨rfl, hw0⟩
 rw [hw0]
 clear hw0
 go_wp2_with fail
 refine CT.out.mono ?_
 rintro e w1 ⟨rfl, r1, u, rfl⟩
 have HR1 : Hid (RP B (w.setCell ⟨g, 0, none⟩ u) v ps) := HR.out.setg hg 0 u
 have HF1 : Hid (FB g B w (w.setCell ⟨g, 0, none⟩ u)) := FB.put 0 u
 have hB1 : B ≤ (w.setCell ⟨g, 0, none⟩ u).heap.size := by simpa [World.setCell] using hB
 obtain ⟨w1, hw1⟩ : ∃ w1, w1 = w.setCell ⟨g, 0, none⟩ u := ⟨_, rfl⟩
 rw [← hw1] at r1 HR1 HF1 hB1 ⊢
 clear hw1 CN CT HR
 go_wp2_with fail
 refine (riSet_any B g (a + 1) l v ps _ r1 HR1.out hg hB1 (by omega) hl (by omega)).mono ?_
 intro e w2 hpost
 have HPO : Hid (RiPost B g l w (100 + (f + 1)) (Pp.thing l (f + 1) a ps) e w2) := hpost.next HF1.out (by omega) HE.out
 obtain ⟨k, bo, rfl⟩ := hpost.ret
 clear hpost
 go_wp2
 (try simp only [Exit.inBlock, Exit.then])
 refine bodyPost_ret (results_tmp2 rfl _ _ _) rfl ?_
 exact HPO.out
set_option maxHeartbeats 1000000 in
set_option maxRecDepth 100000 in
theorem riThing_b40 (B g : Nat) (l : List UInt8) (f : Nat) (hg : g < B) (_hl : l.length ≤ 24) (hA : RiC B g l 132 (Pp.alt l) 4 f) (a : Nat) (v : Value) (ps : List Pp.Pc) (w : World) (h : Ri w g l a v) (hr : RP B w v ps) (hB : B ≤ w.heap.size) (hn : ps.length + 2 * (l.length - a) ≤ 50) (hd : 4 * (l.length - a) + 1 ≤ f + 1) (hb : l[a]? = some 40) :
  Calls Tryz.prog 178 #[.pointer (some ⟨g, 0, none⟩)] w (RiPost B g l w (100 + (f + 1)) (Pp.thing l (f + 1) a ps)) := by
 have hlt := Pp.lt_of_get hb
 have HE : Hid (Pp.thing l (f + 1) a ps = match Pp.alt l f (a + 1) ps with
   | none => none
   | some (e, o, k) => if l[e]? = some 41 then some (e + 1, o, k) else none) := by
  show _ = _
  rw [Pp.thing, hb]
  rfl
 have HA : Hid (RiC B g l 132 (Pp.alt l) 4 f) := hA
 clear hA
 have CN : Hid (Calls Tryz.prog 154 #[.pointer (some ⟨g, 0, none⟩), .string ⟨#[42, 43, 63, 124, 40, 41, 91, 93, 46, 94, 36, 92]⟩] w fun e w' => e = .returned (.bool true) ∧ w' = w) := nextYes g a l [42, 43, 63, 124, 40, 41, 91, 93, 46, 94, 36, 92] 40 v w h hb (by decide)
 have CT : Hid (Calls Tryz.prog 155 #[.pointer (some ⟨g, 0, none⟩)] w fun e w' => e = .returned (.string ⟨#[40]⟩) ∧ Ri w' g l (a + 1) v ∧ (∃ u, w' = w.setCell ⟨g, 0, none⟩ u)) := take_any g a l 40 v w h hb
 have HR : Hid (RP B w v ps) := hr
 clear h hr
 clear hb
 go_enter Tryz.func178, Tryz.ntmps178
 go_wp2_with fail
 refine CN.out.mono ?_
 rintro e w0 ⟨rfl, hw0⟩
 rw [hw0]
 clear hw0
 go_wp2_with fail
 refine CT.out.mono ?_
 rintro e w1 ⟨rfl, r1, u, rfl⟩
 have HR1 : Hid (RP B (w.setCell ⟨g, 0, none⟩ u) v ps) := HR.out.setg hg 0 u
 have HF1 : Hid (FB g B w (w.setCell ⟨g, 0, none⟩ u)) := FB.put 0 u
 have hB1 : B ≤ (w.setCell ⟨g, 0, none⟩ u).heap.size := by simpa [World.setCell] using hB
 obtain ⟨w1, hw1⟩ : ∃ w1, w1 = w.setCell ⟨g, 0, none⟩ u := ⟨_, rfl⟩
 rw [← hw1] at r1 HR1 HF1 hB1 ⊢
 clear hw1 CN CT HR
 go_wp2_with fail
 refine (riBracket B g l f hg HA.out (a + 1) v ps _ r1 HR1.out hB1 (by omega) (by omega) (by omega)).mono ?_
 intro e w2 hpost
 have HPO : Hid (RiPost B g l w (100 + (f + 1)) (Pp.thing l (f + 1) a ps) e w2) := hpost.next HF1.out (by omega) HE.out
 obtain ⟨k, bo, rfl⟩ := hpost.ret
 clear hpost
 go_wp2
 (try simp only [Exit.inBlock, Exit.then])
 refine bodyPost_ret (results_tmp2 rfl _ _ _) rfl ?_
 exact HPO.out
set_option maxHeartbeats 1000000 in
set_option maxRecDepth 100000 in
theorem riThing_b42 (B g : Nat) (l : List UInt8) (f : Nat) (hg : g < B) (_hl : l.length ≤ 24) (a : Nat) (v : Value) (ps : List Pp.Pc) (w : World) (h : Ri w g l a v) (hr : RP B w v ps) (hB : B ≤ w.heap.size) (hn : ps.length + 2 * (l.length - a) ≤ 50) (hb : l[a]? = some 42) :
  Calls Tryz.prog 178 #[.pointer (some ⟨g, 0, none⟩)] w (RiPost B g l w (100 + (f + 1)) (Pp.thing l (f + 1) a ps)) := by
 have hlt := Pp.lt_of_get hb
 have HE : Hid (Pp.thing l (f + 1) a ps = none) := by
  show _ = _
  rw [Pp.thing, hb]
  rfl
 have CN : Hid (Calls Tryz.prog 154 #[.pointer (some ⟨g, 0, none⟩), .string ⟨#[42, 43, 63, 124, 40, 41, 91, 93, 46, 94, 36, 92]⟩] w fun e w' => e = .returned (.bool true) ∧ w' = w) := nextYes g a l [42, 43, 63, 124, 40, 41, 91, 93, 46, 94, 36, 92] 42 v w h hb (by decide)
 have CT : Hid (Calls Tryz.prog 155 #[.pointer (some ⟨g, 0, none⟩)] w fun e w' => e = .returned (.string ⟨#[42]⟩) ∧ Ri w' g l (a + 1) v ∧ (∃ u, w' = w.setCell ⟨g, 0, none⟩ u)) := take_any g a l 42 v w h hb
 have HR : Hid (RP B w v ps) := hr
 clear h hr
 clear hb
 go_enter Tryz.func178, Tryz.ntmps178
 go_wp2_with fail
 refine CN.out.mono ?_
 rintro e w0 ⟨rfl, hw0⟩
 rw [hw0]
 clear hw0
 go_wp2_with fail
 refine CT.out.mono ?_
 rintro e w1 ⟨rfl, r1, u, rfl⟩
 have HR1 : Hid (RP B (w.setCell ⟨g, 0, none⟩ u) v ps) := HR.out.setg hg 0 u
 have HF1 : Hid (FB g B w (w.setCell ⟨g, 0, none⟩ u)) := FB.put 0 u
 have hB1 : B ≤ (w.setCell ⟨g, 0, none⟩ u).heap.size := by simpa [World.setCell] using hB
 obtain ⟨w1, hw1⟩ : ∃ w1, w1 = w.setCell ⟨g, 0, none⟩ u := ⟨_, rfl⟩
 rw [← hw1] at r1 HR1 HF1 hB1 ⊢
 clear hw1 CN CT HR
 obtain ⟨cs, p1⟩ := HR1.out.pr
 go_wp2
 (try simp only [Exit.inBlock, Exit.then])
 refine bodyPost_ret (results_tmp2 rfl _ _ _) rfl ?_
 rw [HE.out]
 exact ⟨HF1.out, _, a + 1, v, _, cs, rfl, r1, p1, by omega⟩
set_option maxHeartbeats 1000000 in
set_option maxRecDepth 100000 in
theorem riThing_b43 (B g : Nat) (l : List UInt8) (f : Nat) (hg : g < B) (_hl : l.length ≤ 24) (a : Nat) (v : Value) (ps : List Pp.Pc) (w : World) (h : Ri w g l a v) (hr : RP B w v ps) (hB : B ≤ w.heap.size) (hn : ps.length + 2 * (l.length - a) ≤ 50) (hb : l[a]? = some 43) :
  Calls Tryz.prog 178 #[.pointer (some ⟨g, 0, none⟩)] w (RiPost B g l w (100 + (f + 1)) (Pp.thing l (f + 1) a ps)) := by
 have hlt := Pp.lt_of_get hb
 have HE : Hid (Pp.thing l (f + 1) a ps = none) := by
  show _ = _
  rw [Pp.thing, hb]
  rfl
 have CN : Hid (Calls Tryz.prog 154 #[.pointer (some ⟨g, 0, none⟩), .string ⟨#[42, 43, 63, 124, 40, 41, 91, 93, 46, 94, 36, 92]⟩] w fun e w' => e = .returned (.bool true) ∧ w' = w) := nextYes g a l [42, 43, 63, 124, 40, 41, 91, 93, 46, 94, 36, 92] 43 v w h hb (by decide)
 have CT : Hid (Calls Tryz.prog 155 #[.pointer (some ⟨g, 0, none⟩)] w fun e w' => e = .returned (.string ⟨#[43]⟩) ∧ Ri w' g l (a + 1) v ∧ (∃ u, w' = w.setCell ⟨g, 0, none⟩ u)) := take_any g a l 43 v w h hb
 have HR : Hid (RP B w v ps) := hr
 clear h hr
 clear hb
 go_enter Tryz.func178, Tryz.ntmps178
 go_wp2_with fail
 refine CN.out.mono ?_
 rintro e w0 ⟨rfl, hw0⟩
 rw [hw0]
 clear hw0
 go_wp2_with fail
 refine CT.out.mono ?_
 rintro e w1 ⟨rfl, r1, u, rfl⟩
 have HR1 : Hid (RP B (w.setCell ⟨g, 0, none⟩ u) v ps) := HR.out.setg hg 0 u
 have HF1 : Hid (FB g B w (w.setCell ⟨g, 0, none⟩ u)) := FB.put 0 u
 have hB1 : B ≤ (w.setCell ⟨g, 0, none⟩ u).heap.size := by simpa [World.setCell] using hB
 obtain ⟨w1, hw1⟩ : ∃ w1, w1 = w.setCell ⟨g, 0, none⟩ u := ⟨_, rfl⟩
 rw [← hw1] at r1 HR1 HF1 hB1 ⊢
 clear hw1 CN CT HR
 obtain ⟨cs, p1⟩ := HR1.out.pr
 go_wp2
 (try simp only [Exit.inBlock, Exit.then])
 refine bodyPost_ret (results_tmp2 rfl _ _ _) rfl ?_
 rw [HE.out]
 exact ⟨HF1.out, _, a + 1, v, _, cs, rfl, r1, p1, by omega⟩
set_option maxHeartbeats 1000000 in
set_option maxRecDepth 100000 in
theorem riThing_b63 (B g : Nat) (l : List UInt8) (f : Nat) (hg : g < B) (_hl : l.length ≤ 24) (a : Nat) (v : Value) (ps : List Pp.Pc) (w : World) (h : Ri w g l a v) (hr : RP B w v ps) (hB : B ≤ w.heap.size) (hn : ps.length + 2 * (l.length - a) ≤ 50) (hb : l[a]? = some 63) :
  Calls Tryz.prog 178 #[.pointer (some ⟨g, 0, none⟩)] w (RiPost B g l w (100 + (f + 1)) (Pp.thing l (f + 1) a ps)) := by
 have hlt := Pp.lt_of_get hb
 have HE : Hid (Pp.thing l (f + 1) a ps = none) := by
  show _ = _
  rw [Pp.thing, hb]
  rfl
 have CN : Hid (Calls Tryz.prog 154 #[.pointer (some ⟨g, 0, none⟩), .string ⟨#[42, 43, 63, 124, 40, 41, 91, 93, 46, 94, 36, 92]⟩] w fun e w' => e = .returned (.bool true) ∧ w' = w) := nextYes g a l [42, 43, 63, 124, 40, 41, 91, 93, 46, 94, 36, 92] 63 v w h hb (by decide)
 have CT : Hid (Calls Tryz.prog 155 #[.pointer (some ⟨g, 0, none⟩)] w fun e w' => e = .returned (.string ⟨#[63]⟩) ∧ Ri w' g l (a + 1) v ∧ (∃ u, w' = w.setCell ⟨g, 0, none⟩ u)) := take_any g a l 63 v w h hb
 have HR : Hid (RP B w v ps) := hr
 clear h hr
 clear hb
 go_enter Tryz.func178, Tryz.ntmps178
 go_wp2_with fail
 refine CN.out.mono ?_
 rintro e w0 ⟨rfl, hw0⟩
 rw [hw0]
 clear hw0
 go_wp2_with fail
 refine CT.out.mono ?_
 rintro e w1 ⟨rfl, r1, u, rfl⟩
 have HR1 : Hid (RP B (w.setCell ⟨g, 0, none⟩ u) v ps) := HR.out.setg hg 0 u
 have HF1 : Hid (FB g B w (w.setCell ⟨g, 0, none⟩ u)) := FB.put 0 u
 have hB1 : B ≤ (w.setCell ⟨g, 0, none⟩ u).heap.size := by simpa [World.setCell] using hB
 obtain ⟨w1, hw1⟩ : ∃ w1, w1 = w.setCell ⟨g, 0, none⟩ u := ⟨_, rfl⟩
 rw [← hw1] at r1 HR1 HF1 hB1 ⊢
 clear hw1 CN CT HR
 obtain ⟨cs, p1⟩ := HR1.out.pr
 go_wp2
 (try simp only [Exit.inBlock, Exit.then])
 refine bodyPost_ret (results_tmp2 rfl _ _ _) rfl ?_
 rw [HE.out]
 exact ⟨HF1.out, _, a + 1, v, _, cs, rfl, r1, p1, by omega⟩
set_option maxHeartbeats 1000000 in
set_option maxRecDepth 100000 in
theorem riThing_b124 (B g : Nat) (l : List UInt8) (f : Nat) (hg : g < B) (_hl : l.length ≤ 24) (a : Nat) (v : Value) (ps : List Pp.Pc) (w : World) (h : Ri w g l a v) (hr : RP B w v ps) (hB : B ≤ w.heap.size) (hn : ps.length + 2 * (l.length - a) ≤ 50) (hb : l[a]? = some 124) :
  Calls Tryz.prog 178 #[.pointer (some ⟨g, 0, none⟩)] w (RiPost B g l w (100 + (f + 1)) (Pp.thing l (f + 1) a ps)) := by
 have hlt := Pp.lt_of_get hb
 have HE : Hid (Pp.thing l (f + 1) a ps = none) := by
  show _ = _
  rw [Pp.thing, hb]
  rfl
 have CN : Hid (Calls Tryz.prog 154 #[.pointer (some ⟨g, 0, none⟩), .string ⟨#[42, 43, 63, 124, 40, 41, 91, 93, 46, 94, 36, 92]⟩] w fun e w' => e = .returned (.bool true) ∧ w' = w) := nextYes g a l [42, 43, 63, 124, 40, 41, 91, 93, 46, 94, 36, 92] 124 v w h hb (by decide)
 have CT : Hid (Calls Tryz.prog 155 #[.pointer (some ⟨g, 0, none⟩)] w fun e w' => e = .returned (.string ⟨#[124]⟩) ∧ Ri w' g l (a + 1) v ∧ (∃ u, w' = w.setCell ⟨g, 0, none⟩ u)) := take_any g a l 124 v w h hb
 have HR : Hid (RP B w v ps) := hr
 clear h hr
 clear hb
 go_enter Tryz.func178, Tryz.ntmps178
 go_wp2_with fail
 refine CN.out.mono ?_
 rintro e w0 ⟨rfl, hw0⟩
 rw [hw0]
 clear hw0
 go_wp2_with fail
 refine CT.out.mono ?_
 rintro e w1 ⟨rfl, r1, u, rfl⟩
 have HR1 : Hid (RP B (w.setCell ⟨g, 0, none⟩ u) v ps) := HR.out.setg hg 0 u
 have HF1 : Hid (FB g B w (w.setCell ⟨g, 0, none⟩ u)) := FB.put 0 u
 have hB1 : B ≤ (w.setCell ⟨g, 0, none⟩ u).heap.size := by simpa [World.setCell] using hB
 obtain ⟨w1, hw1⟩ : ∃ w1, w1 = w.setCell ⟨g, 0, none⟩ u := ⟨_, rfl⟩
 rw [← hw1] at r1 HR1 HF1 hB1 ⊢
 clear hw1 CN CT HR
 obtain ⟨cs, p1⟩ := HR1.out.pr
 go_wp2
 (try simp only [Exit.inBlock, Exit.then])
 refine bodyPost_ret (results_tmp2 rfl _ _ _) rfl ?_
 rw [HE.out]
 exact ⟨HF1.out, _, a + 1, v, _, cs, rfl, r1, p1, by omega⟩
set_option maxHeartbeats 1000000 in
set_option maxRecDepth 100000 in
theorem riThing_b41 (B g : Nat) (l : List UInt8) (f : Nat) (hg : g < B) (_hl : l.length ≤ 24) (a : Nat) (v : Value) (ps : List Pp.Pc) (w : World) (h : Ri w g l a v) (hr : RP B w v ps) (hB : B ≤ w.heap.size) (hn : ps.length + 2 * (l.length - a) ≤ 50) (hb : l[a]? = some 41) :
  Calls Tryz.prog 178 #[.pointer (some ⟨g, 0, none⟩)] w (RiPost B g l w (100 + (f + 1)) (Pp.thing l (f + 1) a ps)) := by
 have hlt := Pp.lt_of_get hb
 have HE : Hid (Pp.thing l (f + 1) a ps = none) := by
  show _ = _
  rw [Pp.thing, hb]
  rfl
 have CN : Hid (Calls Tryz.prog 154 #[.pointer (some ⟨g, 0, none⟩), .string ⟨#[42, 43, 63, 124, 40, 41, 91, 93, 46, 94, 36, 92]⟩] w fun e w' => e = .returned (.bool true) ∧ w' = w) := nextYes g a l [42, 43, 63, 124, 40, 41, 91, 93, 46, 94, 36, 92] 41 v w h hb (by decide)
 have CT : Hid (Calls Tryz.prog 155 #[.pointer (some ⟨g, 0, none⟩)] w fun e w' => e = .returned (.string ⟨#[41]⟩) ∧ Ri w' g l (a + 1) v ∧ (∃ u, w' = w.setCell ⟨g, 0, none⟩ u)) := take_any g a l 41 v w h hb
 have HR : Hid (RP B w v ps) := hr
 clear h hr
 clear hb
 go_enter Tryz.func178, Tryz.ntmps178
 go_wp2_with fail
 refine CN.out.mono ?_
 rintro e w0 ⟨rfl, hw0⟩
 rw [hw0]
 clear hw0
 go_wp2_with fail
 refine CT.out.mono ?_
 rintro e w1 ⟨rfl, r1, u, rfl⟩
 have HR1 : Hid (RP B (w.setCell ⟨g, 0, none⟩ u) v ps) := HR.out.setg hg 0 u
 have HF1 : Hid (FB g B w (w.setCell ⟨g, 0, none⟩ u)) := FB.put 0 u
 have hB1 : B ≤ (w.setCell ⟨g, 0, none⟩ u).heap.size := by simpa [World.setCell] using hB
 obtain ⟨w1, hw1⟩ : ∃ w1, w1 = w.setCell ⟨g, 0, none⟩ u := ⟨_, rfl⟩
 rw [← hw1] at r1 HR1 HF1 hB1 ⊢
 clear hw1 CN CT HR
 obtain ⟨cs, p1⟩ := HR1.out.pr
 go_wp2
 (try simp only [Exit.inBlock, Exit.then])
 refine bodyPost_ret (results_tmp2 rfl _ _ _) rfl ?_
 rw [HE.out]
 exact ⟨HF1.out, _, a + 1, v, _, cs, rfl, r1, p1, by omega⟩
set_option maxHeartbeats 1000000 in
set_option maxRecDepth 100000 in
theorem riThing_b93 (B g : Nat) (l : List UInt8) (f : Nat) (hg : g < B) (_hl : l.length ≤ 24) (a : Nat) (v : Value) (ps : List Pp.Pc) (w : World) (h : Ri w g l a v) (hr : RP B w v ps) (hB : B ≤ w.heap.size) (hn : ps.length + 2 * (l.length - a) ≤ 50) (hb : l[a]? = some 93) :
  Calls Tryz.prog 178 #[.pointer (some ⟨g, 0, none⟩)] w (RiPost B g l w (100 + (f + 1)) (Pp.thing l (f + 1) a ps)) := by
 have hlt := Pp.lt_of_get hb
 have HE : Hid (Pp.thing l (f + 1) a ps = none) := by
  show _ = _
  rw [Pp.thing, hb]
  rfl
 have CN : Hid (Calls Tryz.prog 154 #[.pointer (some ⟨g, 0, none⟩), .string ⟨#[42, 43, 63, 124, 40, 41, 91, 93, 46, 94, 36, 92]⟩] w fun e w' => e = .returned (.bool true) ∧ w' = w) := nextYes g a l [42, 43, 63, 124, 40, 41, 91, 93, 46, 94, 36, 92] 93 v w h hb (by decide)
 have CT : Hid (Calls Tryz.prog 155 #[.pointer (some ⟨g, 0, none⟩)] w fun e w' => e = .returned (.string ⟨#[93]⟩) ∧ Ri w' g l (a + 1) v ∧ (∃ u, w' = w.setCell ⟨g, 0, none⟩ u)) := take_any g a l 93 v w h hb
 have HR : Hid (RP B w v ps) := hr
 clear h hr
 clear hb
 go_enter Tryz.func178, Tryz.ntmps178
 go_wp2_with fail
 refine CN.out.mono ?_
 rintro e w0 ⟨rfl, hw0⟩
 rw [hw0]
 clear hw0
 go_wp2_with fail
 refine CT.out.mono ?_
 rintro e w1 ⟨rfl, r1, u, rfl⟩
 have HR1 : Hid (RP B (w.setCell ⟨g, 0, none⟩ u) v ps) := HR.out.setg hg 0 u
 have HF1 : Hid (FB g B w (w.setCell ⟨g, 0, none⟩ u)) := FB.put 0 u
 have hB1 : B ≤ (w.setCell ⟨g, 0, none⟩ u).heap.size := by simpa [World.setCell] using hB
 obtain ⟨w1, hw1⟩ : ∃ w1, w1 = w.setCell ⟨g, 0, none⟩ u := ⟨_, rfl⟩
 rw [← hw1] at r1 HR1 HF1 hB1 ⊢
 clear hw1 CN CT HR
 obtain ⟨cs, p1⟩ := HR1.out.pr
 go_wp2
 (try simp only [Exit.inBlock, Exit.then])
 refine bodyPost_ret (results_tmp2 rfl _ _ _) rfl ?_
 rw [HE.out]
 exact ⟨HF1.out, _, a + 1, v, _, cs, rfl, r1, p1, by omega⟩
set_option maxHeartbeats 1000000 in
set_option maxRecDepth 100000 in
theorem riThing_b92 (B g : Nat) (l : List UInt8) (f : Nat) (hg : g < B) (_hl : l.length ≤ 24) (a : Nat) (v : Value) (ps : List Pp.Pc) (w : World) (h : Ri w g l a v) (hr : RP B w v ps) (hB : B ≤ w.heap.size) (hn : ps.length + 2 * (l.length - a) ≤ 50) (hb : l[a]? = some 92) :
  Calls Tryz.prog 178 #[.pointer (some ⟨g, 0, none⟩)] w (RiPost B g l w (100 + (f + 1)) (Pp.thing l (f + 1) a ps)) := by
 have hlt := Pp.lt_of_get hb
 have HE : Hid (Pp.thing l (f + 1) a ps = match l[a + 1]? with
   | none => none
   | some c => if Pp.special c then (Pp.put ps ⟨1, [c], []⟩).map fun (o, k) => (a + 2, o, k) else none) := by
  show _ = _
  rw [Pp.thing, hb]
  rfl
 have CN : Hid (Calls Tryz.prog 154 #[.pointer (some ⟨g, 0, none⟩), .string ⟨#[42, 43, 63, 124, 40, 41, 91, 93, 46, 94, 36, 92]⟩] w fun e w' => e = .returned (.bool true) ∧ w' = w) := nextYes g a l [42, 43, 63, 124, 40, 41, 91, 93, 46, 94, 36, 92] 92 v w h hb (by decide)
 have CT : Hid (Calls Tryz.prog 155 #[.pointer (some ⟨g, 0, none⟩)] w fun e w' => e = .returned (.string ⟨#[92]⟩) ∧ Ri w' g l (a + 1) v ∧ (∃ u, w' = w.setCell ⟨g, 0, none⟩ u)) := take_any g a l 92 v w h hb
 have HR : Hid (RP B w v ps) := hr
 clear h hr
 clear hb
 go_enter Tryz.func178, Tryz.ntmps178
 go_wp2_with fail
 refine CN.out.mono ?_
 rintro e w0 ⟨rfl, hw0⟩
 rw [hw0]
 clear hw0
 go_wp2_with fail
 refine CT.out.mono ?_
 rintro e w1 ⟨rfl, r1, u, rfl⟩
 have HR1 : Hid (RP B (w.setCell ⟨g, 0, none⟩ u) v ps) := HR.out.setg hg 0 u
 have HF1 : Hid (FB g B w (w.setCell ⟨g, 0, none⟩ u)) := FB.put 0 u
 have hB1 : B ≤ (w.setCell ⟨g, 0, none⟩ u).heap.size := by simpa [World.setCell] using hB
 obtain ⟨w1, hw1⟩ : ∃ w1, w1 = w.setCell ⟨g, 0, none⟩ u := ⟨_, rfl⟩
 rw [← hw1] at r1 HR1 HF1 hB1 ⊢
 clear hw1 CN CT HR
 by_cases hq : ∃ c, l[a + 1]? = some c ∧ Pp.special c = true
 ·obtain ⟨c, hc, hsp⟩ := hq
  have hlt1 := Pp.lt_of_get hc
  have HT : Hid (Pp.thing l (f + 1) a ps = some (a + 2, ps ++ [⟨1, [c], []⟩], ps.length)) := by
   show _ = _
   rw [HE.out, hc]
   simp only [hsp, ↓reduceIte]
   rw [put_ok (by omega)]
   rfl
  have CN : Hid (Calls Tryz.prog 154 #[.pointer (some ⟨g, 0, none⟩), .string ⟨#[42, 43, 63, 124, 40, 41, 91, 93, 46, 94, 36, 92]⟩] w1 fun e w' => e = .returned (.bool true) ∧ w' = w1) := nextYes g (a + 1) l [42, 43, 63, 124, 40, 41, 91, 93, 46, 94, 36, 92] c v w1 r1 hc ((special_mem c).1 hsp)
  have CT : Hid (Calls Tryz.prog 155 #[.pointer (some ⟨g, 0, none⟩)] w1 fun e w' => e = .returned (.string (tx [c])) ∧ Ri w' g l (a + 1 + 1) v ∧ (∃ u, w' = w1.setCell ⟨g, 0, none⟩ u)) := take_any g (a + 1) l c v w1 r1 hc
  clear HE hc hsp
  go_wp2_with fail
  refine CN.out.mono ?_
  rintro e w0 ⟨rfl, hw0⟩
  rw [hw0]
  clear hw0
  go_wp2_with fail
  refine CT.out.mono ?_
  rintro e w2 ⟨rfl, r2, u2, rfl⟩
  go_wp2_with fail
  refine (riAdd0 B g (a + 1 + 1) 1 l _ [c] v ps _ r2 (HR1.out.setg hg 0 u2) hg (by simpa [World.setCell] using hB1) (by omega) rfl (by simp)).mono ?_
  rintro e w3 ⟨rfl, hfb, v3, r3, p3⟩
  have HP3 : Hid (RP B w3 v3 (ps ++ [⟨1, [c], []⟩])) := p3
  have HF3 : Hid (FB g B w w3) := (HF1.out.setg 0 u2).trans hfb
  clear p3 hfb
  go_wp2
  (try simp only [Exit.inBlock, Exit.then])
  refine bodyPost_ret (results_tmp2 rfl _ _ _) rfl ?_
  rw [HT.out]
  exact ⟨HF3.out, rfl, v3, r3, HP3.out⟩
 ·have HT : Hid (Pp.thing l (f + 1) a ps = none) := by
   show _ = _
   rw [HE.out]
   cases hc : l[a + 1]? with
   | none => rfl
   | some c =>
    have : Pp.special c = false := by
     cases hsp : Pp.special c with
     | false => rfl
     | true => exact absurd ⟨c, hc, hsp⟩ hq
    simp only [this, Bool.false_eq_true, ↓reduceIte]
  have CN : Hid (Calls Tryz.prog 154 #[.pointer (some ⟨g, 0, none⟩), .string ⟨#[42, 43, 63, 124, 40, 41, 91, 93, 46, 94, 36, 92]⟩] w1 fun e w' => e = .returned (.bool false) ∧ w' = w1) := nextNo g (a + 1) l [42, 43, 63, 124, 40, 41, 91, 93, 46, 94, 36, 92] v w1 r1 (fun c hc e => hq ⟨c, hc, (special_mem c).2 e⟩)
  obtain ⟨cs, p1⟩ := HR1.out.pr
  clear HE hq
  go_wp2_with fail
  refine CN.out.mono ?_
  rintro e w0 ⟨rfl, hw0⟩
  rw [hw0]
  clear hw0
  go_wp2
  (try simp only [Exit.inBlock, Exit.then])
  refine bodyPost_ret (results_tmp2 rfl _ _ _) rfl ?_
  rw [HT.out]
  exact ⟨HF1.out, _, a + 1, v, _, cs, rfl, r1, p1, by omega⟩
set_option maxRecDepth 100000 in
theorem riThing (B g : Nat) (l : List UInt8) (f : Nat) (hg : g < B) (hl : l.length ≤ 24) (hA : RiC B g l 132 (Pp.alt l) 4 f) (a : Nat) (v : Value) (ps : List Pp.Pc) (w : World) (h : Ri w g l a v) (hr : RP B w v ps) (hB : B ≤ w.heap.size) (hn : ps.length + 2 * (l.length - a) ≤ 50) (hd : 4 * (l.length - a) + 1 ≤ f + 1) (ha : a < l.length) :
  Calls Tryz.prog 178 #[.pointer (some ⟨g, 0, none⟩)] w (RiPost B g l w (100 + (f + 1)) (Pp.thing l (f + 1) a ps)) := by
 have hb : l[a]? = some l[a] := List.getElem?_eq_getElem ha
 obtain ⟨b, hbb⟩ : ∃ b, b = l[a] := ⟨_, rfl⟩
 rw [← hbb] at hb
 clear hbb
 cases hs : Pp.special b with
 | false => exact riThing_other B g l f hg hl a v ps w h hr hB hn b hb hs
 | true =>
  have hm := (special_mem b).1 hs
  simp only [List.mem_cons, List.not_mem_nil, or_false] at hm
  rcases hm with rfl | rfl | rfl | rfl | rfl | rfl | rfl | rfl | rfl | rfl | rfl | rfl
  ·exact riThing_b42 B g l f hg hl a v ps w h hr hB hn hb
  ·exact riThing_b43 B g l f hg hl a v ps w h hr hB hn hb
  ·exact riThing_b63 B g l f hg hl a v ps w h hr hB hn hb
  ·exact riThing_b124 B g l f hg hl a v ps w h hr hB hn hb
  ·exact riThing_b40 B g l f hg hl hA a v ps w h hr hB hn hd hb
  ·exact riThing_b41 B g l f hg hl a v ps w h hr hB hn hb
  ·exact riThing_b91 B g l f hg hl a v ps w h hr hB hn hb
  ·exact riThing_b93 B g l f hg hl a v ps w h hr hB hn hb
  ·exact riThing_b46 B g l f hg hl a v ps w h hr hB hn hb
  ·exact riThing_b94 B g l f hg hl a v ps w h hr hB hn hb
  ·exact riThing_b36 B g l f hg hl a v ps w h hr hB hn hb
  ·exact riThing_b92 B g l f hg hl a v ps w h hr hB hn hb
end PartRiD
section PartRiE
open Go.RowKit
def leftI (g : Nat) (ok : Value) (w : World) : Nat := match ok with
 | .bool true => (match w.cell? ⟨g, 0, none⟩ with
  | some (.string x) => x.size + 1
  | _ => 0)
 | _ => 0
theorem Ri.left {w : World} {g a : Nat} {l : List UInt8} {v : Value} (h : Ri w g l a v) : leftI g (.bool true) w = l.length - a + 1 := by
 obtain ⟨c0, _⟩ := cells2 h
 unfold leftI
 rw [c0]
 show (tx (l.drop a)).size + 1 = _
 rw [tx_size]
 simp
def MidI (B g N : Nat) (l : List UInt8) (w wr : World) (k ok : Value) (R : Option (Nat × List Pp.Pc × Nat)) (F : Nat → Nat → List Pp.Pc → Nat → Option (Nat × List Pp.Pc × Nat)) (c f M : Nat) : Prop :=
 FB g B w wr ∧ ((∃ (z : Int) (a' : Nat) (v' : Value) (n' : Nat) (cs' : List Value), k = .int .i64 z ∧ ok = .bool false ∧ Ri wr g l a' v' ∧ PR B wr v' n' cs' ∧ n' ≤ N ∧ R = none) ∨
  (∃ (j a' fm : Nat) (v' : Value) (o : List Pp.Pc), k = .int .i64 (j : Int) ∧ ok = .bool true ∧ a' ≤ l.length ∧ Ri wr g l a' v' ∧ RP B wr v' o ∧ o.length + 2 * (l.length - a') ≤ M ∧ F fm a' o j = R ∧ 4 * (l.length - a') + c ≤ fm ∧ fm ≤ f))
theorem MidI.of {B g N c f M : Nat} {l : List UInt8} {w w' : World} {R : Option (Nat × List Pp.Pc × Nat)} {F : Nat → Nat → List Pp.Pc → Nat → Option (Nat × List Pp.Pc × Nat)} {e : Ending} (h : RiPost B g l w N R e w')
  (hd : ∀ a' o k, R = some (a', o, k) → a' ≤ l.length ∧ o.length + 2 * (l.length - a') ≤ M ∧ 4 * (l.length - a') + c ≤ f) :
  ∃ k ok, e = .returned (.tuple #[k, ok]) ∧ MidI B g N l w w' k ok (R.bind fun r => F f r.1 r.2.1 r.2.2) F c f M := by
 obtain ⟨hf, h⟩ := h
 cases R with
 | none =>
  obtain ⟨z, a', v', n', cs', rfl, h1, h2, h3⟩ := h
  exact ⟨_, _, rfl, hf, .inl ⟨z, a', v', n', cs', rfl, rfl, h1, h2, h3, rfl⟩⟩
 | some r =>
  obtain ⟨a', o, j⟩ := r
  obtain ⟨rfl, v', h3, h4⟩ := h
  obtain ⟨d1, d2, d3⟩ := hd a' o j rfl
  exact ⟨_, _, rfl, hf, .inr ⟨j, a', f, v', o, rfl, rfl, d1, h3, h4, d2, rfl, d3, Nat.le_refl _⟩⟩
theorem MidI.form {B g N c f M : Nat} {l : List UInt8} {w wr : World} {k ok : Value} {R : Option (Nat × List Pp.Pc × Nat)} {F : Nat → Nat → List Pp.Pc → Nat → Option (Nat × List Pp.Pc × Nat)} (h : MidI B g N l w wr k ok R F c f M) : ∃ (z : Int) (b : Bool), k = .int .i64 z ∧ ok = .bool b := by
 rcases h.2 with ⟨z, _, _, _, _, rfl, rfl, _⟩ | ⟨j, _, _, _, _, rfl, rfl, _⟩
 ·exact ⟨z, false, rfl, rfl⟩
 ·exact ⟨j, true, rfl, rfl⟩
set_option maxRecDepth 100000 in
set_option maxHeartbeats 400000 in
theorem rep42 (w : World) : Calls Tryz.prog 179 #[.string ⟨#[42]⟩] w fun e w' => e = .returned (.int .i64 7) ∧ w' = w := by
 go_enter Tryz.func179, Tryz.ntmps179
 go_wp2
 go_ret
 exact ⟨rfl, rfl⟩
set_option maxRecDepth 100000 in
set_option maxHeartbeats 400000 in
theorem rep43 (w : World) : Calls Tryz.prog 179 #[.string ⟨#[43]⟩] w fun e w' => e = .returned (.int .i64 8) ∧ w' = w := by
 go_enter Tryz.func179, Tryz.ntmps179
 go_wp2
 go_ret
 exact ⟨rfl, rfl⟩
set_option maxRecDepth 100000 in
set_option maxHeartbeats 400000 in
theorem rep63 (w : World) : Calls Tryz.prog 179 #[.string ⟨#[63]⟩] w fun e w' => e = .returned (.int .i64 9) ∧ w' = w := by
 go_enter Tryz.func179, Tryz.ntmps179
 go_wp2
 go_ret
 exact ⟨rfl, rfl⟩
theorem more_endI (l : List UInt8) (f a : Nat) (ps : List Pp.Pc) (k : Nat) (h : ∀ b, l[a]? = some b → b ∉ ([42, 43, 63] : List UInt8)) : Pp.more l (f + 1) a ps k = some (a, ps, k) := by
 rw [Pp.more]
 cases hb : l[a]? with
 | none => rfl
 | some b =>
  have := h b hb
  have h2 : ¬ (b = 42 ∨ b = 43 ∨ b = 63) := by simpa using this
  simp only [h2, ↓reduceIte]
theorem more_goI (l : List UInt8) (f a : Nat) (ps : List Pp.Pc) (k op : Nat) (b : UInt8) (hb : l[a]? = some b) (h : b = 42 ∧ op = 7 ∨ b = 43 ∧ op = 8 ∨ b = 63 ∧ op = 9) (hn : ps.length ≤ 59) : Pp.more l (f + 1) a ps k = Pp.more l f (a + 1) (ps ++ [⟨op, [], [k]⟩]) ps.length := by
 rw [Pp.more, hb]
 rcases h with ⟨rfl, rfl⟩ | ⟨rfl, rfl⟩ | ⟨rfl, rfl⟩
 ·show (match Pp.put ps ⟨7, [], [k]⟩ with | none => none | some (o, j) => Pp.more l f (a + 1) o j) = _
  rw [put_ok hn]
 ·show (match Pp.put ps ⟨8, [], [k]⟩ with | none => none | some (o, j) => Pp.more l f (a + 1) o j) = _
  rw [put_ok hn]
 ·show (match Pp.put ps ⟨9, [], [k]⟩ with | none => none | some (o, j) => Pp.more l f (a + 1) o j) = _
  rw [put_ok hn]
set_option maxHeartbeats 2000000 in
set_option maxRecDepth 100000 in
theorem riMany (B g : Nat) (l : List UInt8) (f : Nat) (hg : g < B) (a : Nat) (ps : List Pp.Pc) (w : World)
  (hT : Calls Tryz.prog 178 #[.pointer (some ⟨g, 0, none⟩)] w (RiPost B g l w (100 + f) (Pp.thing l f a ps)))
  (hB : B ≤ w.heap.size) (hn : ps.length + 2 * (l.length - a) ≤ 50) (hd : 4 * (l.length - a) + 2 ≤ f + 1) :
  Calls Tryz.prog 169 #[.pointer (some ⟨g, 0, none⟩)] w (RiPost B g l w (100 + (f + 1)) (Pp.many l (f + 1) a ps)) := by
 have HT : Hid (Calls Tryz.prog 178 #[.pointer (some ⟨g, 0, none⟩)] w (RiPost B g l w (100 + f) (Pp.thing l f a ps))) := hT
 obtain ⟨R, hR⟩ : ∃ R, R = Pp.many l (f + 1) a ps := ⟨_, rfl⟩
 rw [← hR]
 have HR : Hid (R = (Pp.thing l f a ps).bind fun r => Pp.more l f r.1 r.2.1 r.2.2) := by
  show _ = _
  rw [hR, Pp.many]
  cases Pp.thing l f a ps <;> rfl
 clear hT hR
 go_enter Tryz.func169, Tryz.ntmps169
 go_wp2_with fail
 refine HT.out.mono ?_
 intro e w1 hpost
 obtain ⟨k1, ok1, rfl, hmid⟩ := MidI.of (F := Pp.more l) (c := 1) (f := f) (M := 51) hpost (fun a' o k e1 => by have := (Pp.bd l f).thing a ps a' o k e1; omega)
 rw [← HR.out] at hmid
 have HMID : Hid (MidI B g (100 + f) l w w1 k1 ok1 R (Pp.more l) 1 f 51) := hmid
 obtain ⟨z1, b1, rfl, rfl⟩ := hmid.form
 clear hmid hpost HT HR
 cases b1 with
 | false =>
  rcases HMID.out with ⟨hfb, ⟨z, a', v', n', cs', hz, _, r', p', hn', hRn⟩ | ⟨j, a', fm, v', o, _, hok, _⟩⟩
  ·have HRN : Hid (R = none) := hRn
   have HFB : Hid (FB g B w w1) := hfb
   clear hRn hfb HMID hz
   go_wp2_with fail
   refine wp_loop_rounds 1 ?_
   rw [rounds_succ]
   go_wp2
   (try simp only [Exit.inBlock, Exit.then])
   refine bodyPost_ret (results_tmp2 rfl _ _ _) rfl ?_
   rw [HRN.out]
   exact ⟨HFB.out, z1, a', v', n', cs', rfl, r', p', by omega⟩
  ·cases hok
 | true =>
 go_wp2_with fail
 go_loopw [4] (fun k wr => Hid (MidI B g (100 + f) l w wr k (.bool true) R (Pp.more l) 1 f 51)) (fun _ wr => leftI g (.bool true) wr)
 case atStart => exact HMID.out
 case round =>
  clear HMID
  obtain ⟨hfb, hm⟩ := hrel.out
  clear hrel
  have HFB : Hid (FB g B w wr) := hfb
  have hBr : B ≤ wr.heap.size := by have := hfb.1; omega
  clear hfb
  rcases hm with ⟨z, a', v', n', cs', _, hok, _⟩ | ⟨j, a', fm, v', o, rfl, _, ha', r', p', ho, hRe, hfm, hfm2⟩
  ·cases hok
  ·obtain ⟨fm, rfl⟩ : ∃ fm', fm = fm' + 1 := ⟨fm - 1, by omega⟩
   have HP' : Hid (RP B wr v' o) := p'
   have hlf := r'.left
   clear p'
   by_cases hq : ∃ b, l[a']? = some b ∧ b ∈ ([42, 43, 63] : List UInt8)
   ·obtain ⟨b, hb, hmem⟩ := hq
    have hlt := Pp.lt_of_get hb
    have CN : Hid (Calls Tryz.prog 154 #[.pointer (some ⟨g, 0, none⟩), .string ⟨#[42, 43, 63]⟩] wr fun e w' => e = .returned (.bool true) ∧ w' = wr) := nextYes g a' l [42, 43, 63] b v' wr r' hb hmem
    have CT : Hid (Calls Tryz.prog 155 #[.pointer (some ⟨g, 0, none⟩)] wr fun e w' => e = .returned (.string (tx [b])) ∧ Ri w' g l (a' + 1) v' ∧ (∃ u, w' = wr.setCell ⟨g, 0, none⟩ u)) := take_any g a' l b v' wr r' hb
    obtain ⟨op, hop, CR⟩ : ∃ op : Nat, (b = 42 ∧ op = 7 ∨ b = 43 ∧ op = 8 ∨ b = 63 ∧ op = 9) ∧ Hid (∀ w0 : World, Calls Tryz.prog 179 #[.string (tx [b])] w0 fun e w' => e = .returned (.int .i64 (op : Int)) ∧ w' = w0) := by
     simp only [List.mem_cons, List.not_mem_nil, or_false] at hmem
     rcases hmem with rfl | rfl | rfl
     ·exact ⟨7, .inl ⟨rfl, rfl⟩, fun w0 => rep42 w0⟩
     ·exact ⟨8, .inr (.inl ⟨rfl, rfl⟩), fun w0 => rep43 w0⟩
     ·exact ⟨9, .inr (.inr ⟨rfl, rfl⟩), fun w0 => rep63 w0⟩
    have HPUT : Hid (Pp.more l fm (a' + 1) (o ++ [⟨op, [], [j]⟩]) o.length = R) := by
     show _ = _
     rw [← hRe, more_goI l fm a' o j op b hb hop (by omega)]
    clear hRe hmem hop hb
    go_wp2_with fail
    refine CN.out.mono ?_
    rintro e w0 ⟨rfl, hw0⟩
    rw [hw0]
    clear hw0
    go_wp2_with fail
    refine CT.out.mono ?_
    rintro e w2 ⟨rfl, r2, u, rfl⟩
    go_wp2_with fail
    refine (CR.out _).mono ?_
    rintro e w3 ⟨rfl, rfl⟩
    go_wp2_with fail
    refine (riAdd1 B g (a' + 1) op j _ l v' o _ r2 (HP'.out.setg hg 0 u) hg (by simpa [World.setCell] using hBr) (by omega) (by simp [World.setCell])).mono ?_
    rintro e w4 ⟨rfl, hfb4, v4, r4, p4⟩
    have hlf4 := r4.left
    have HMID : Hid (MidI B g (100 + f) l w w4 (.int .i64 (o.length : Int)) (.bool true) R (Pp.more l) 1 f 51) := ⟨(HFB.out.setg 0 u).trans hfb4, .inr ⟨o.length, a' + 1, fm, v4, _, rfl, rfl, by omega, r4, p4, by simp; omega, HPUT.out, by omega, by omega⟩⟩
    clear r4 p4 hfb4 r2 CN CT CR
    go_wp2_with fail
    go_roundw
    case rel => exact HMID.out
    case measure => omega
   ·have HRS : Hid (R = some (a', o, j)) := by
     show _ = _
     rw [← hRe]
     exact more_endI l fm a' o j (fun b hb hm => hq ⟨b, hb, hm⟩)
    have CN : Hid (Calls Tryz.prog 154 #[.pointer (some ⟨g, 0, none⟩), .string ⟨#[42, 43, 63]⟩] wr fun e w' => e = .returned (.bool false) ∧ w' = wr) := nextNo g a' l [42, 43, 63] v' wr r' (fun b hb hm => hq ⟨b, hb, hm⟩)
    clear hRe hq
    go_wp2_with fail
    refine CN.out.mono ?_
    rintro e w0 ⟨rfl, hw0⟩
    rw [hw0]
    clear hw0
    go_wp2
    (try simp only [Exit.inBlock, Exit.then])
    refine bodyPost_ret (results_tmp2 rfl _ _ _) rfl ?_
    rw [HRS.out]
    exact ⟨HFB.out, rfl, v', r', HP'.out⟩
end PartRiE
section PartRiF
open Go.RowKit
def ends (l : List UInt8) (a : Nat) : Prop := l[a]? = none ∨ l[a]? = some 124 ∨ l[a]? = some 41
set_option maxRecDepth 100000 in
set_option maxHeartbeats 400000 in
theorem rowEndsYes (g a : Nat) (l : List UInt8) (v : Value) (w : World) (h : Ri w g l a v) (he : ends l a) :
  Calls Tryz.prog 168 #[.pointer (some ⟨g, 0, none⟩)] w fun e w' => e = .returned (.bool true) ∧ w' = w := by
 have h' := h
 unfold Ri at h'
 cases hb : l[a]? with
 | none =>
  have hd : l.drop a = [] := List.drop_of_length_le (by have := List.getElem?_eq_none_iff.1 hb; exact this)
  rw [hd] at h'
  obtain ⟨c0, c1, f0, f1⟩ := cells2 h'
  clear h h' hb he hd
  go_enter Tryz.func168, Tryz.ntmps168
  go_wp2
  go_ret
  exact ⟨rfl, rfl⟩
 | some b =>
  have CN : Hid (Calls Tryz.prog 154 #[.pointer (some ⟨g, 0, none⟩), .string ⟨#[124, 41]⟩] w fun e w' => e = .returned (.bool true) ∧ w' = w) := nextYes g a l [124, 41] b v w h hb (by rcases he with e | e | e <;> rw [hb] at e <;> simp_all)
  rw [drop_at l a b hb] at h'
  obtain ⟨c0, c1, f0, f1⟩ := cells2 h'
  obtain ⟨x, hx⟩ : ∃ x, x = tx (b :: l.drop (a + 1)) := ⟨_, rfl⟩
  have c0' : w.cell? ⟨g, 0, none⟩ = some (.string x) := by rw [hx]; exact c0
  have hem' : x.toList.isEmpty = false := by rw [hx, tx_empty]; rfl
  clear hx h h' hb he c0 f0 f1
  go_enter Tryz.func168, Tryz.ntmps168
  go_wp2_with fail
  refine CN.out.mono ?_
  rintro e w0 ⟨rfl, hw0⟩
  rw [hw0]
  clear hw0
  go_wp2
  go_ret
  exact ⟨rfl, rfl⟩
set_option maxRecDepth 100000 in
set_option maxHeartbeats 400000 in
theorem rowEndsNo (g a : Nat) (l : List UInt8) (v : Value) (w : World) (h : Ri w g l a v) (he : ¬ ends l a) :
  Calls Tryz.prog 168 #[.pointer (some ⟨g, 0, none⟩)] w fun e w' => e = .returned (.bool false) ∧ w' = w := by
 have h' := h
 unfold Ri at h'
 cases hb : l[a]? with
 | none => exact absurd (.inl hb) he
 | some b =>
  have CN : Hid (Calls Tryz.prog 154 #[.pointer (some ⟨g, 0, none⟩), .string ⟨#[124, 41]⟩] w fun e w' => e = .returned (.bool false) ∧ w' = w) := nextNo g a l [124, 41] v w h (fun c hc hm => he (by
   simp only [List.mem_cons, List.not_mem_nil, or_false] at hm
   rcases hm with rfl | rfl
   ·exact .inr (.inl hc)
   ·exact .inr (.inr hc)))
  rw [drop_at l a b hb] at h'
  obtain ⟨c0, c1, f0, f1⟩ := cells2 h'
  obtain ⟨x, hx⟩ : ∃ x, x = tx (b :: l.drop (a + 1)) := ⟨_, rfl⟩
  have c0' : w.cell? ⟨g, 0, none⟩ = some (.string x) := by rw [hx]; exact c0
  have hem' : x.toList.isEmpty = false := by rw [hx, tx_empty]; rfl
  clear hx h h' hb he c0 f0 f1
  go_enter Tryz.func168, Tryz.ntmps168
  go_wp2_with fail
  refine CN.out.mono ?_
  rintro e w0 ⟨rfl, hw0⟩
  rw [hw0]
  clear hw0
  go_wp2
  go_ret
  exact ⟨rfl, rfl⟩
theorem rest_endI (l : List UInt8) (f a : Nat) (ps : List Pp.Pc) (k : Nat) (h : ends l a) : Pp.rest l (f + 1) a ps k = some (a, ps, k) := by
 rw [Pp.rest]
 cases hb : l[a]? with
 | none => rfl
 | some b =>
  have hc : b = 124 ∨ b = 41 := by
   unfold ends at h
   rw [hb] at h
   simpa using h
  simp only [hc, ↓reduceIte]
theorem rest_goI (l : List UInt8) (f a : Nat) (ps : List Pp.Pc) (k : Nat) (h : ¬ ends l a) : Pp.rest l (f + 1) a ps k = match Pp.many l f a ps with
  | none => none
  | some (e, o, j) => (Pp.put o ⟨5, [], [k, j]⟩).bind fun r => Pp.rest l f e r.1 r.2 := by
 rw [Pp.rest]
 cases hb : l[a]? with
 | none => exact absurd (.inl hb) h
 | some b =>
  have hc : ¬ (b = 124 ∨ b = 41) := by
   intro hbb
   apply h
   rcases hbb with rfl | rfl
   ·exact .inr (.inl hb)
   ·exact .inr (.inr hb)
  simp only [hc, ↓reduceIte]
  cases Pp.many l f a ps with
  | none => rfl
  | some r =>
   obtain ⟨e, o, j⟩ := r
   show (match Pp.put o ⟨5, [], [k, j]⟩ with | none => none | some (o2, k2) => _) = (Pp.put o ⟨5, [], [k, j]⟩).bind fun r => Pp.rest l f e r.1 r.2
   cases Pp.put o ⟨5, [], [k, j]⟩ <;> rfl
set_option maxRecDepth 100000 in
theorem alts_goI (l : List UInt8) (f a : Nat) (ps : List Pp.Pc) (k : Nat) (h : l[a]? = some 124) : Pp.alts l (f + 1) a ps k = match Pp.row l f (a + 1) ps with
  | none => none
  | some (e, o, j) => (Pp.put o ⟨6, [], [k, j]⟩).bind fun r => Pp.alts l f e r.1 r.2 := by
 rw [Pp.alts, if_pos h]
 cases Pp.row l f (a + 1) ps with
 | none => rfl
 | some r =>
  obtain ⟨e, o, j⟩ := r
  show (match Pp.put o ⟨6, [], [k, j]⟩ with | none => none | some (o2, k2) => _) = (Pp.put o ⟨6, [], [k, j]⟩).bind fun r => Pp.alts l f e r.1 r.2
  cases Pp.put o ⟨6, [], [k, j]⟩ <;> rfl
def ManyI (B g : Nat) (l : List UInt8) (f : Nat) : Prop :=
 ∀ (a : Nat) (v : Value) (ps : List Pp.Pc) (w : World), Ri w g l a v → RP B w v ps → B ≤ w.heap.size → a < l.length → ps.length + 2 * (l.length - a) ≤ 50 → 4 * (l.length - a) + 2 ≤ f →
  Calls Tryz.prog 169 #[.pointer (some ⟨g, 0, none⟩)] w (RiPost B g l w (100 + f) (Pp.many l f a ps))
set_option maxRecDepth 100000 in
theorem riAddBad (B g a op n : Nat) (l : List UInt8) (v : Value) (cs : List Value) (z z2 : Int) (q : Nat) (w : World) (h : Ri w g l a v) (hp : PR B w v n cs) (hg : g < B) (hB : B ≤ w.heap.size) (hn : n ≤ 1000) :
  Calls Tryz.prog 156 #[.pointer (some ⟨g, 0, none⟩), .int .i64 (op : Int), .string ⟨#[]⟩, .slice (some ⟨q, 0, none⟩) 2 2] (w.alloc (.cells #[.int .i64 z, .int .i64 z2] 3)) fun e w' => e = .returned (.int .i64 (n : Int)) ∧ FB g B w w' ∧ ∃ v' cs', Ri w' g l a v' ∧ PR B w' v' (n + 1) cs' := by
 have hb : Below w.heap.size w (w.alloc (.cells #[.int .i64 z, .int .i64 z2] 3)) := (Below.refl _ _).alloc (Nat.le_refl _) _
 have hp' : PR B (w.alloc (.cells #[.int .i64 z, .int .i64 z2] 3)) v n cs := hp.keep fun q e => hb.block q (World.ownsRow.lt hp q e).2
 refine (riAdd_any B g a n op l ⟨#[]⟩ v cs (some ⟨q, 0, none⟩) 2 2 _ (h.up hb) hp' hn hg (by simp; omega) (by show (0 : Nat) ≤ 100; omega)).mono ?_
 rintro e w' ⟨v', rfl, hR, hP, hs, hf, _, hen⟩
 exact ⟨rfl, (FB.of (hb.mono hB)).trans (FB.fr ⟨hs, hf, hen⟩ hp' (by simp; omega)), v', _, hR, hP⟩
set_option maxHeartbeats 4000000 in
set_option maxRecDepth 100000 in
theorem riRow (B g : Nat) (l : List UInt8) (f : Nat) (hg : g < B) (hf : f ≤ 200) (hM : ∀ f', f' ≤ f → ManyI B g l f') : RiC B g l 153 (Pp.row l) 3 (f + 1) := by
 intro a v ps w h hr hB ha hn hd
 have HM : Hid (∀ f', f' ≤ f → ManyI B g l f') := hM
 have HP0 : Hid (RP B w v ps) := hr
 obtain ⟨R, hR⟩ : ∃ R, R = Pp.row l (f + 1) a ps := ⟨_, rfl⟩
 rw [← hR]
 clear hM hr
 by_cases hst : ends l a
 ·have HRE : Hid (R = some (a, ps ++ [⟨12, [], []⟩], ps.length)) := by
   show _ = _
   rw [hR, Pp.row, if_pos (show l[a]? = none ∨ l[a]? = some 124 ∨ l[a]? = some 41 from hst), put_ok (by omega)]
   rfl
  have CE : Hid (Calls Tryz.prog 168 #[.pointer (some ⟨g, 0, none⟩)] w fun e w' => e = .returned (.bool true) ∧ w' = w) := rowEndsYes g a l v w h hst
  clear hR hst HM
  go_enter Tryz.func153, Tryz.ntmps153
  go_wp2_with fail
  refine CE.out.mono ?_
  rintro e w0 ⟨rfl, hw0⟩
  rw [hw0]
  clear hw0
  go_wp2_with fail
  refine (riAdd0 B g a 12 l _ [] v ps w h HP0.out hg hB (by omega) rfl (by simp)).mono ?_
  rintro e w2 ⟨rfl, hfb, v2, r2, p2⟩
  go_wp2
  (try simp only [Exit.inBlock, Exit.then])
  refine bodyPost_ret (results_tmp2 rfl _ _ _) rfl ?_
  rw [HRE.out]
  exact ⟨hfb, rfl, v2, r2, p2⟩
 ·have hlt : a < l.length := by
   by_cases hlt : a < l.length
   ·exact hlt
   ·exact absurd (.inl (List.getElem?_eq_none (by omega))) hst
  have HR : Hid (R = (Pp.many l f a ps).bind fun r => Pp.rest l f r.1 r.2.1 r.2.2) := by
   show _ = _
   rw [hR, Pp.row, if_neg (show ¬ (l[a]? = none ∨ l[a]? = some 124 ∨ l[a]? = some 41) from hst)]
   cases Pp.many l f a ps <;> rfl
  have CE : Hid (Calls Tryz.prog 168 #[.pointer (some ⟨g, 0, none⟩)] w fun e w' => e = .returned (.bool false) ∧ w' = w) := rowEndsNo g a l v w h hst
  clear hR hst
  go_enter Tryz.func153, Tryz.ntmps153
  go_wp2_with fail
  refine CE.out.mono ?_
  rintro e w0 ⟨rfl, hw0⟩
  rw [hw0]
  clear hw0
  go_wp2_with fail
  refine (HM.out f (Nat.le_refl _) a v ps w h HP0.out hB hlt hn (by omega)).mono ?_
  intro e w1 hpost
  obtain ⟨k1, ok1, rfl, hmid⟩ := MidI.of (F := Pp.rest l) (c := 3) (f := f) (M := 50) (hpost.next (w := w) (FB.refl g B w) (show 100 + f ≤ 100 + (f + 1) by omega) rfl) (fun a' o k e1 => by have := (Pp.bd l f).many a ps a' o k e1; omega)
  rw [← HR.out] at hmid
  have HMID : Hid (MidI B g (100 + (f + 1)) l w w1 k1 ok1 R (Pp.rest l) 3 f 50) := hmid
  obtain ⟨z1, b1, rfl, rfl⟩ := hmid.form
  clear hmid hpost HR HP0 CE h
  go_wp2_with fail
  go_loopw [4, 5] (fun k ok wr => Hid (MidI B g (100 + (f + 1)) l w wr k ok R (Pp.rest l) 3 f 50)) (fun _ ok wr => leftI g ok wr)
  case atStart => exact HMID.out
  case round =>
   clear HMID
   obtain ⟨hfb, hm⟩ := hrel.out
   clear hrel
   have HFB : Hid (FB g B w wr) := hfb
   have hBr : B ≤ wr.heap.size := by have := hfb.1; omega
   clear hfb
   rcases hm with ⟨z, a', v', n', cs', rfl, rfl, r', p', hn', hRn⟩ | ⟨j, a', fm, v', o, rfl, rfl, ha', r', p', ho, hRe, hfm, hfm2⟩
   ·have HRN : Hid (R = none) := hRn
    clear hRn
    go_wp2
    (try simp only [Exit.inBlock, Exit.then])
    refine bodyPost_ret (results_tmp2 rfl _ _ _) rfl ?_
    rw [HRN.out]
    exact ⟨HFB.out, z, a', v', n', cs', rfl, r', p', by omega⟩
   ·obtain ⟨fm, rfl⟩ : ∃ fm', fm = fm' + 1 := ⟨fm - 1, by omega⟩
    have HP' : Hid (RP B wr v' o) := p'
    have hlf := r'.left
    clear p'
    by_cases hst : ends l a'
    ·have HRS : Hid (R = some (a', o, j)) := by show _ = _; rw [← hRe]; exact rest_endI l fm a' o j hst
     have CE : Hid (Calls Tryz.prog 168 #[.pointer (some ⟨g, 0, none⟩)] wr fun e w' => e = .returned (.bool true) ∧ w' = wr) := rowEndsYes g a' l v' wr r' hst
     clear hRe hst
     go_wp2_with fail
     refine CE.out.mono ?_
     rintro e w0 ⟨rfl, hw0⟩
     rw [hw0]
     clear hw0
     go_wp2
     (try simp only [Exit.inBlock, Exit.then])
     refine bodyPost_ret (results_tmp2 rfl _ _ _) rfl ?_
     rw [HRS.out]
     exact ⟨HFB.out, rfl, v', r', HP'.out⟩
    ·have hlt2 : a' < l.length := by
      by_cases hlt : a' < l.length
      ·exact hlt
      ·exact absurd (.inl (List.getElem?_eq_none (by omega))) hst
     have HRG : Hid (R = match Pp.many l fm a' o with
       | none => none
       | some (e, o, j2) => (Pp.put o ⟨5, [], [j, j2]⟩).bind fun r => Pp.rest l fm e r.1 r.2) := by
      show _ = _
      rw [← hRe]
      exact rest_goI l fm a' o j hst
     have CE : Hid (Calls Tryz.prog 168 #[.pointer (some ⟨g, 0, none⟩)] wr fun e w' => e = .returned (.bool false) ∧ w' = wr) := rowEndsNo g a' l v' wr r' hst
     clear hRe hst
     go_wp2_with fail
     refine CE.out.mono ?_
     rintro e w0 ⟨rfl, hw0⟩
     rw [hw0]
     clear hw0
     go_wp2_with fail
     refine (HM.out fm (by omega) a' v' o wr r' HP'.out hBr hlt2 (by omega) (by omega)).mono ?_
     intro e w5 hpost
     obtain ⟨hfb5, hpost⟩ := hpost
     have HF5 : Hid (FB g B w w5) := HFB.out.trans hfb5
     have hB5 : B ≤ w5.heap.size := by have := HF5.out.1; omega
     clear hfb5 HFB HP' CE
     cases hmr : Pp.many l fm a' o with
     | none =>
      rw [hmr] at hpost
      obtain ⟨z, a5, v5, n5, cs5, rfl, r5, p5, hn5⟩ := hpost
      have HRN : Hid (R = none) := by show _ = _; rw [HRG.out, hmr]
      clear HRG hmr
      go_wp2_with fail
      refine (riAddBad B g a5 5 n5 l v5 cs5 _ _ _ w5 r5 p5 hg hB5 (by omega)).mono ?_
      rintro e w6 ⟨rfl, hf6, v6, cs6, r6, p6⟩
      have HMID : Hid (MidI B g (100 + (f + 1)) l w w6 (.int .i64 (n5 : Int)) (.bool false) R (Pp.rest l) 3 f 50) := ⟨HF5.out.trans hf6, .inl ⟨_, a5, v6, _, cs6, rfl, rfl, r6, p6, by omega, HRN.out⟩⟩
      have hl6 : leftI g (.bool false) w6 = 0 := rfl
      clear r6 p6 hf6 r5 p5
      go_wp2_with fail
      go_roundw
      case rel => exact HMID.out
      case measure => omega
     | some r =>
      obtain ⟨e5, o5, k5⟩ := r
      rw [hmr] at hpost
      have hb5 := (Pp.bd l fm).many a' o e5 o5 k5 hmr
      obtain ⟨rfl, v5, r5, p5⟩ := hpost
      have HRP : Hid (Pp.rest l fm e5 (o5 ++ [⟨5, [], [j, k5]⟩]) o5.length = R) := by show _ = _; rw [HRG.out, hmr]; show _ = (Pp.put o5 ⟨5, [], [j, k5]⟩).bind _; rw [put_ok (by omega)]; rfl
      clear HRG hmr
      have HP5 : Hid (RP B w5 v5 o5) := p5
      clear p5
      go_wp2_with fail
      refine (riAdd2 B g e5 5 j k5 _ l v5 o5 w5 r5 HP5.out hg hB5 (by omega) rfl).mono ?_
      rintro e w6 ⟨rfl, hfb6, v6, r6, p6⟩
      have hlf6 := r6.left
      have HMID : Hid (MidI B g (100 + (f + 1)) l w w6 (.int .i64 (o5.length : Int)) (.bool true) R (Pp.rest l) 3 f 50) := ⟨HF5.out.trans hfb6, .inr ⟨o5.length, e5, fm, v6, _, rfl, rfl, by omega, r6, p6, by simp; omega, HRP.out, by omega, by omega⟩⟩
      clear r6 p6 hfb6 r5
      go_wp2_with fail
      go_roundw
      case rel => exact HMID.out
      case measure => omega
set_option maxHeartbeats 4000000 in
set_option maxRecDepth 100000 in
theorem riAlt (B g : Nat) (l : List UInt8) (f : Nat) (hg : g < B) (hf : f ≤ 200) (hM : ∀ f', f' ≤ f → RiC B g l 153 (Pp.row l) 3 f') : RiC B g l 132 (Pp.alt l) 4 (f + 1) := by
 intro a v ps w h hr hB ha hn hd
 have HM : Hid (∀ f', f' ≤ f → RiC B g l 153 (Pp.row l) 3 f') := hM
 obtain ⟨R, hR⟩ : ∃ R, R = Pp.alt l (f + 1) a ps := ⟨_, rfl⟩
 rw [← hR]
 have HR : Hid (R = (Pp.row l f a ps).bind fun r => Pp.alts l f r.1 r.2.1 r.2.2) := by
  show _ = _
  rw [hR, Pp.alt]
  cases Pp.row l f a ps <;> rfl
 have HC : Hid (Calls Tryz.prog 153 #[.pointer (some ⟨g, 0, none⟩)] w (RiPost B g l w (100 + f) (Pp.row l f a ps))) := hM f (Nat.le_refl _) a v ps w h hr hB ha hn (by omega)
 clear hM hr hR h
 go_enter Tryz.func132, Tryz.ntmps132
 go_wp2_with fail
 refine HC.out.mono ?_
 intro e w1 hpost
 obtain ⟨k1, ok1, rfl, hmid⟩ := MidI.of (F := Pp.alts l) (c := 3) (f := f) (M := 51) (hpost.next (w := w) (FB.refl g B w) (show 100 + f ≤ 100 + (f + 1) by omega) rfl) (fun a' o k e1 => by have := (Pp.bd l f).row a ps a' o k ha e1; omega)
 rw [← HR.out] at hmid
 have HMID : Hid (MidI B g (100 + (f + 1)) l w w1 k1 ok1 R (Pp.alts l) 3 f 51) := hmid
 obtain ⟨z1, b1, rfl, rfl⟩ := hmid.form
 clear hmid hpost HR HC
 go_wp2_with fail
 go_loopw [4, 5] (fun k ok wr => Hid (MidI B g (100 + (f + 1)) l w wr k ok R (Pp.alts l) 3 f 51)) (fun _ ok wr => leftI g ok wr)
 case atStart => exact HMID.out
 case round =>
  clear HMID
  obtain ⟨hfb, hm⟩ := hrel.out
  clear hrel
  have HFB : Hid (FB g B w wr) := hfb
  have hBr : B ≤ wr.heap.size := by have := hfb.1; omega
  clear hfb
  rcases hm with ⟨z, a', v', n', cs', rfl, rfl, r', p', hn', hRn⟩ | ⟨j, a', fm, v', o, rfl, rfl, ha', r', p', ho, hRe, hfm, hfm2⟩
  ·have HRN : Hid (R = none) := hRn
   clear hRn
   go_wp2
   (try simp only [Exit.inBlock, Exit.then])
   refine bodyPost_ret (results_tmp2 rfl _ _ _) rfl ?_
   rw [HRN.out]
   exact ⟨HFB.out, z, a', v', n', cs', rfl, r', p', by omega⟩
  ·obtain ⟨fm, rfl⟩ : ∃ fm', fm = fm' + 1 := ⟨fm - 1, by omega⟩
   have HP' : Hid (RP B wr v' o) := p'
   have hlf := r'.left
   clear p'
   by_cases hst : l[a']? = some 124
   ·have hlt2 := Pp.lt_of_get hst
    have HRG : Hid (R = match Pp.row l fm (a' + 1) o with
      | none => none
      | some (e, o, j2) => (Pp.put o ⟨6, [], [j, j2]⟩).bind fun r => Pp.alts l fm e r.1 r.2) := by
     show _ = _
     rw [← hRe]
     exact alts_goI l fm a' o j hst
    have CE : Hid (Calls Tryz.prog 154 #[.pointer (some ⟨g, 0, none⟩), .string ⟨#[124]⟩] wr fun e w' => e = .returned (.bool true) ∧ w' = wr) := nextYes g a' l [124] 124 v' wr r' hst (by simp)
    have CT : Hid (Calls Tryz.prog 155 #[.pointer (some ⟨g, 0, none⟩)] wr fun e w' => e = .returned (.string ⟨#[124]⟩) ∧ Ri w' g l (a' + 1) v' ∧ (∃ u, w' = wr.setCell ⟨g, 0, none⟩ u)) := take_any g a' l 124 v' wr r' hst
    clear hRe hst
    go_wp2_with fail
    refine CE.out.mono ?_
    rintro e w0 ⟨rfl, hw0⟩
    rw [hw0]
    clear hw0
    go_wp2_with fail
    refine CT.out.mono ?_
    rintro e w2 ⟨rfl, r2, u, rfl⟩
    clear CT
    go_wp2_with fail
    refine (HM.out fm (by omega) (a' + 1) v' o _ r2 (HP'.out.setg hg 0 u) (by simpa [World.setCell] using hBr) (by omega) (by omega) (by omega)).mono ?_
    intro e w5 hpost
    obtain ⟨hfb5, hpost⟩ := hpost
    have HF5 : Hid (FB g B w w5) := (HFB.out.setg 0 u).trans hfb5
    have hB5 : B ≤ w5.heap.size := by have := HF5.out.1; omega
    clear hfb5 HFB HP' CE
    cases hmr : Pp.row l fm (a' + 1) o with
    | none =>
     rw [hmr] at hpost
     obtain ⟨z, a5, v5, n5, cs5, rfl, r5, p5, hn5⟩ := hpost
     have HRN : Hid (R = none) := by show _ = _; rw [HRG.out, hmr]
     clear HRG hmr
     go_wp2_with fail
     refine (riAddBad B g a5 6 n5 l v5 cs5 _ _ _ w5 r5 p5 hg hB5 (by omega)).mono ?_
     rintro e w6 ⟨rfl, hf6, v6, cs6, r6, p6⟩
     have HMID : Hid (MidI B g (100 + (f + 1)) l w w6 (.int .i64 (n5 : Int)) (.bool false) R (Pp.alts l) 3 f 51) := ⟨HF5.out.trans hf6, .inl ⟨_, a5, v6, _, cs6, rfl, rfl, r6, p6, by omega, HRN.out⟩⟩
     have hl6 : leftI g (.bool false) w6 = 0 := rfl
     clear r6 p6 hf6 r5 p5
     go_wp2_with fail
     go_roundw
     case rel => exact HMID.out
     case measure => omega
    | some r =>
     obtain ⟨e5, o5, k5⟩ := r
     rw [hmr] at hpost
     have hb5 := (Pp.bd l fm).row (a' + 1) o e5 o5 k5 (by omega) hmr
     obtain ⟨rfl, v5, r5, p5⟩ := hpost
     have HRP : Hid (Pp.alts l fm e5 (o5 ++ [⟨6, [], [j, k5]⟩]) o5.length = R) := by show _ = _; rw [HRG.out, hmr]; show _ = (Pp.put o5 ⟨6, [], [j, k5]⟩).bind _; rw [put_ok (by omega)]; rfl
     clear HRG hmr
     have HP5 : Hid (RP B w5 v5 o5) := p5
     clear p5
     go_wp2_with fail
     refine (riAdd2 B g e5 6 j k5 _ l v5 o5 w5 r5 HP5.out hg hB5 (by omega) rfl).mono ?_
     rintro e w6 ⟨rfl, hfb6, v6, r6, p6⟩
     have hlf6 := r6.left
     have HMID : Hid (MidI B g (100 + (f + 1)) l w w6 (.int .i64 (o5.length : Int)) (.bool true) R (Pp.alts l) 3 f 51) := ⟨HF5.out.trans hfb6, .inr ⟨o5.length, e5, fm, v6, _, rfl, rfl, by omega, r6, p6, by simp; omega, HRP.out, by omega, by omega⟩⟩
     clear r6 p6 hfb6 r5
     go_wp2_with fail
     go_roundw
     case rel => exact HMID.out
     case measure => omega
   ·have HRS : Hid (R = some (a', o, j)) := by show _ = _; rw [← hRe, Pp.alts, if_neg hst]
    have CE : Hid (Calls Tryz.prog 154 #[.pointer (some ⟨g, 0, none⟩), .string ⟨#[124]⟩] wr fun e w' => e = .returned (.bool false) ∧ w' = wr) := nextNo g a' l [124] v' wr r' (fun b hb hm => hst (by rw [hb, List.mem_singleton.1 hm]))
    clear hRe hst
    go_wp2_with fail
    refine CE.out.mono ?_
    rintro e w0 ⟨rfl, hw0⟩
    rw [hw0]
    clear hw0
    go_wp2
    (try simp only [Exit.inBlock, Exit.then])
    refine bodyPost_ret (results_tmp2 rfl _ _ _) rfl ?_
    rw [HRS.out]
    exact ⟨HFB.out, rfl, v', r', HP'.out⟩
theorem riAll (B g : Nat) (l : List UInt8) (hg : g < B) (hl : l.length ≤ 24) : ∀ f, f ≤ 200 → RiC B g l 132 (Pp.alt l) 4 f := by
 intro f
 induction f using Nat.strongRecOn with
 | _ f ih =>
  intro hf
  have hMany : ∀ f', f' < f → ManyI B g l f' := by
   intro f' hf' a v ps w h1 h2 h3 h4 h5 h6
   obtain ⟨f'', rfl⟩ : ∃ f'', f' = f'' + 2 := ⟨f' - 2, by omega⟩
   exact riMany B g l (f'' + 1) hg a ps w (riThing B g l f'' hg hl (ih f'' (by omega) (by omega)) a v ps w h1 h2 h3 h5 (by omega) h4) h3 h5 (by omega)
  have hRow : ∀ f', f' < f → RiC B g l 153 (Pp.row l) 3 f' := by
   intro f' hf'
   cases f' with
   | zero => intro a v ps w h1 h2 h3 h4 h5 h6; omega
   | succ f'' => exact riRow B g l f'' hg (by omega) (fun f3 h3 => hMany f3 (by omega))
  cases f with
  | zero => intro a v ps w h1 h2 h3 h4 h5 h6; omega
  | succ f' => exact riAlt B g l f' hg (by omega) (fun f3 h3 => hRow f3 (by omega))
end PartRiF
section PartRiG
open Go.RowKit
set_option maxHeartbeats 2000000 in
set_option maxRecDepth 100000 in
theorem implRead_any (s : ByteArray) (w : World) (hs : s.size ≤ 1048576) :
  Calls Tryz.prog 116 #[.string s] w fun e w' => Below w.heap.size w w' ∧ Answer w' w.heap.size (Pp.read s.data.toList) e := by
 have hsl : s.data.toList.length = s.size := by simp
 by_cases hin : 1 ≤ s.size ∧ s.size ≤ 24
 ·have hem : s.toList.isEmpty = false := by
   rw [Lib.toList_data]
   cases hq : s.data.toList with
   | nil => rw [hq] at hsl; simp at hsl; omega
   | cons b r => rfl
  have d24 : decide ((24 : Int) < (s.size : Int)) = false := decide_eq_false (by omega)
  obtain ⟨R, hR⟩ : ∃ R, R = Pp.read s.data.toList := ⟨_, rfl⟩
  have HR : Hid (R = match Pp.alt s.data.toList 200 0 [] with
    | none => none
    | some (e, o, _) => if e < s.size then none else some o) := by
   show _ = _
   rw [hR, Pp.read, hsl, if_pos hin]
   rfl
  rw [← hR]
  clear hR
  have HA := riAll (w.heap.size + 2) (w.heap.size + 1) s.data.toList (by omega) (by omega) 200 (Nat.le_refl _) 0 (.slice none 0 0) []
  have CA : Hid (∀ w1 : World, Ri w1 (w.heap.size + 1) s.data.toList 0 (.slice none 0 0) → w.heap.size + 2 ≤ w1.heap.size → Calls Tryz.prog 132 #[.pointer (some ⟨w.heap.size + 1, 0, none⟩)] w1 (RiPost (w.heap.size + 2) (w.heap.size + 1) s.data.toList w1 300 (Pp.alt s.data.toList 200 0 []))) :=
   fun w1 h1 h2 => HA w1 h1 ⟨fun _ => 0, [], World.ownsRow_nil _ _ _ _, fun i hi => by simp at hi, fun i j _ hj => by simp at hj⟩ h2 (by omega) (by simp; omega) (by omega)
  have hst : (⟨(s.data.toList.drop 0).toArray⟩ : ByteArray) = s := by apply ByteArray.ext; simp
  have HI : Hid (∀ A : Obj, Ri ((w.alloc A).alloc (.cells #[.string s, .slice none 0 0] 190)) (w.heap.size + 1) s.data.toList 0 (.slice none 0 0)) := by
   intro A
   show _ = _
   rw [alloc2_1, hst]
  clear HA hst
  go_enter Tryz.func116, Tryz.ntmps116
  go_wp2_with fail
  refine (CA.out _ (HI.out _) (by simp)).mono ?_
  intro e w5 hpost
  clear CA HI
  obtain ⟨hfb, hpost⟩ := hpost
  have B5 : Below w.heap.size w w5 := (((Below.refl _ _).alloc (Nat.le_refl _) _).alloc (by simp) _).trans (hfb.below (by omega) (by omega))
  have r0 := hfb.2.1 w.heap.size (by omega) (by omega)
  rw [alloc2_0] at r0
  have hsz5 : w.heap.size + 2 ≤ w5.heap.size := by have := hfb.1; simp at this; omega
  clear hfb
  have x0 := blk_cell r0 0
  have y0 := blk_free r0 0
  simp at x0
  cases hA : Pp.alt s.data.toList 200 0 [] with
  | none =>
   rw [hA] at hpost
   obtain ⟨k, a', v', n', cs', rfl, r', p', hn'⟩ := hpost
   have HRN : Hid (R = none) := by show _ = _; rw [HR.out, hA]
   clear HR hA
   go_wp2_with fail
   refine bodyPost_ret (res_pat rfl _ _ w.heap.size (.slice none 0 0) rfl (blk_set r0 0 (.slice none 0 0))) rfl ?_
   rw [HRN.out]
   exact ⟨B5.setCell (by exact Nat.le_refl _) _, rfl⟩
  | some r =>
   obtain ⟨e5, o5, k5⟩ := r
   rw [hA] at hpost
   obtain ⟨rfl, v', r', p'⟩ := hpost
   have hbd := (Pp.bd s.data.toList 200).alt 0 [] e5 o5 k5 (by omega) hA
   have hpos : 0 < o5.length := Pp.alt_pos _ _ _ _ _ _ _ hA
   simp at hbd
   have ho : o5.length ≤ 60 := by omega
   obtain ⟨c0, c1, f0, f1⟩ := cells2 r'
   obtain ⟨x, hx⟩ : ∃ x, x = tx (s.data.toList.drop e5) := ⟨_, rfl⟩
   have c0' : w5.cell? ⟨w.heap.size + 1, 0, none⟩ = some (.string x) := by rw [hx]; exact c0
   by_cases hend : e5 < s.size
   ·have HRN : Hid (R = none) := by show _ = _; rw [HR.out, hA]; simp only [hend, ↓reduceIte]
    have hxe : x.toList.isEmpty = false := by
     rw [hx, tx_empty]
     cases hq : s.data.toList.drop e5 with
     | nil => have := congrArg List.length hq; simp at this; omega
     | cons b r => rfl
    clear HR hA hx c0
    go_wp2_with fail
    refine bodyPost_ret (res_pat rfl _ _ w.heap.size (.slice none 0 0) rfl (blk_set r0 0 (.slice none 0 0))) rfl ?_
    rw [HRN.out]
    exact ⟨B5.setCell (by exact Nat.le_refl _) _, rfl⟩
   ·have HRS : Hid (R = some o5) := by show _ = _; rw [HR.out, hA]; simp only [hend, ↓reduceIte]
    have hxe : x.toList.isEmpty = true := by
     rw [hx, tx_empty, List.drop_of_length_le (by omega)]
     rfl
    obtain ⟨ad, cc, rfl⟩ : ∃ ad cc, v' = .slice ad o5.length cc := by
     obtain ⟨_, cs, hp, _⟩ := p'
     rcases hp.2 with ⟨rfl, h0⟩ | ⟨g, cap, cur, rfl, _⟩
     ·exact ⟨none, 0, by rw [h0]⟩
     ·exact ⟨_, _, rfl⟩
    have d60 : decide ((60 : Int) < (o5.length : Int)) = false := decide_eq_false (by omega)
    have HP' : Hid (RP (w.heap.size + 2) w5 (.slice ad o5.length cc) o5) := p'
    clear HR hA p' hx c0
    go_wp2_with fail
    refine bodyPost_ret (res_pat rfl _ _ w.heap.size (.slice ad o5.length cc) rfl (blk_set r0 0 (.slice ad o5.length cc))) rfl ?_
    rw [HRS.out]
    refine ⟨B5.setCell (by exact Nat.le_refl _) _, _, rfl, ?_, hpos, ho⟩
    exact RP.lower (RP.setg HP'.out (by omega) 0 _) (by omega)
 ·have HR : Hid (Pp.read s.data.toList = none) := by show _ = _; rw [Pp.read, hsl, if_neg hin]
  by_cases h0 : s.size = 0
  ·have hem : s.toList.isEmpty = true := by
    rw [Lib.toList_data, List.eq_nil_of_length_eq_zero (l := s.data.toList) (by omega)]
    rfl
   go_enter Tryz.func116, Tryz.ntmps116
   go_wp2_with fail
   refine bodyPost_ret (res_pat rfl _ _ w.heap.size (.slice none 0 0) rfl (heap_alloc_new _ _)) rfl ?_
   rw [HR.out]
   exact ⟨(Below.refl _ _).alloc (Nat.le_refl _) _, rfl⟩
  ·have hem : s.toList.isEmpty = false := by
    rw [Lib.toList_data]
    cases hq : s.data.toList with
    | nil => rw [hq] at hsl; simp at hsl; omega
    | cons b r => rfl
   have d24 : decide ((24 : Int) < (s.size : Int)) = true := decide_eq_true (by omega)
   go_enter Tryz.func116, Tryz.ntmps116
   go_wp2_with fail
   refine bodyPost_ret (res_pat rfl _ _ w.heap.size (.slice none 0 0) rfl (heap_alloc_new _ _)) rfl ?_
   rw [HR.out]
   exact ⟨(Below.refl _ _).alloc (Nat.le_refl _) _, rfl⟩
end PartRiG
end Go.Proofs.YtkfkbdgfnopokaaGreatDoor
