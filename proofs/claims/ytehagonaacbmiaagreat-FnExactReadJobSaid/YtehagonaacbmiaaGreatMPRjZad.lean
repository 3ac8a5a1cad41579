/- Small laws for the walks: a byte appended to a row of bytes that the call itself made, and the string of such a row. The specification's reader of a pattern: a set, and small laws on what a part leaves. The specification's reader of a pattern: a thing. The specification's reader of a pattern: a thing with its signs behind it. -/
import Derived.Test.YtehagonaacbmiaaGreatProg
import Derived.Test.YtehagonaacbmiaaGreatMPRjZac
import Derived.WalkKit
import Derived.WalkSpells
import Derived.WalkLawsBesides
import Derived.Handy
import Derived.Laws.BytesArg
namespace Go.Proofs.YtehagonaacbmiaaGreat
section PartKit
open Go.RowKit

/-- A byte as a value. -/
def bv (b : UInt8) : Value := .int .u8 (b.toNat : Int)

theorem Tryz.infoU : (Tryz.prog.info? 5).map (fun i => (i.zero, i.size, i.bytes)) = some (some (.int .u8 0), 1, 1) := by kernel_rfl

/-- The row of bytes bs, in the call's own memory from block B on. -/
def Row (B : Nat) (w : World) (v : Value) (bs : List UInt8) : Prop := w.ownsRow B 5 1 v bs.length (bs.map bv)

theorem Row.nil (B : Nat) (w : World) : Row B w (.slice none 0 0) [] := World.ownsRow_nil _ _ _ _
theorem Row.made {B : Nat} (w : World) (cur : Array Value) (cap : Nat) (hb : B ≤ w.heap.size) (hm : cap ≤ maxLen) (hs : cur.size = cap) :
    Row B (w.alloc (.cells cur 5)) (.slice (some ⟨w.heap.size, 0, none⟩) 0 cap) [] := World.ownsRow_made w cur cap hb hm (by omega)
theorem Row.alloc {B : Nat} {w : World} {v : Value} {bs : List UInt8} (h : Row B w v bs) (o : Obj) : Row B (w.alloc o) v bs := World.ownsRow.alloc h o

set_option maxRecDepth 100000 in
/-- The string of such a row. -/
theorem Row.str {B : Nat} {w : World} {v : Value} {bs : List UInt8} (h : Row B w v bs) :
    (convert 139 9 v).run Tryz.prog w = .ok (.string ⟨bs.toArray⟩) w := by
  rcases h.2 with ⟨rfl, hn⟩ | ⟨g, cap, cur, rfl, _, hg, _, _, _, htake⟩
  · obtain rfl : bs = [] := by simpa using hn
    exact run_convert_bytes_nil w 139 5 Tryz.underlying139 Tryz.underlying5 0 0 9 Tryz.underlying9
  · have hc : ∀ j, j < bs.length → w.cell? ⟨g, 0 + j, none⟩ = some (.int .u8 ((bs.map fun b => (b.toNat : Int)).getD j 0)) := by
      intro j hj
      rw [Nat.zero_add, cell_of_row w g j cur 5 (0, 0) hg]
      have e : cur.toList[j]? = (bs.map bv)[j]? := by
        rw [← htake, List.getElem?_take, if_pos (by omega)]
      have e2 : (bs.map bv)[j]? = some (.int .u8 ((bs.map fun b => (b.toNat : Int)).getD j 0)) := by
        simp [hj, bv]
      rw [← e2, ← e]; simp
    have := run_convert_bytes_arg (P := Tryz.prog) w 139 5 Tryz.underlying139 Tryz.underlying5 g 0 bs.length cap (bs.map fun b => (b.toNat : Int)) (by simp) hc 9 Tryz.underlying9
    rw [this]
    have e3 : strOfNums (bs.map fun b => (b.toNat : Int)) = ⟨bs.toArray⟩ := by
      unfold strOfNums
      congr 2
      rw [List.map_map]
      conv => rhs; rw [← List.map_id bs]
      apply List.map_congr_left
      intro b _
      simp
    rw [e3]

set_option maxRecDepth 100000 in
/-- One byte more. -/
theorem Row.push {ops : Array Oper} {rest : List Oper} {o : Oper} {a : Act} {Q : Exit → Act → World → Prop} {B : Nat} {w : World} {v : Value} {bs : List UInt8}
    (hown : Row B w v bs) (hgd : o.guard = none) (s x : Operand)
    (ho : o.op = .call { callee := .builtin .append, args := #[s, x], argTypes := #[139, 139] })
    (hs : a.eval s = v) (z : Int) (c : UInt8) (hz : z = (c.toNat : Int)) (hx : a.eval x = .slice (some ⟨w.heap.size, 0, none⟩) 1 1)
    (hlen : bs.length < 140737488355328) (hB : B ≤ w.heap.size)
    (h : ∀ v' w', Row B w' v' (bs ++ [c]) → Below B w w' → wpList Tryz.prog ops Q rest (a.put o.dst v') w') :
    wpList Tryz.prog ops Q (o :: rest) a (w.alloc (.cells #[.int .u8 z] 5)) := by
  subst hz
  obtain ⟨i0, hi, hz0, hz1, hz2⟩ := info_parts Tryz.infoU
  refine wpList_append_own _ hgd s x 139 ho B 5 i0 (.int .u8 0) 1 1 Tryz.underlying139 hi hz0 hz1 hz2 rfl (by decide) v bs.length (bs.map bv) hs (hown.alloc _) ⟨w.heap.size, 0, none⟩ 1 1 [bv c] hx rfl (cell_one_new _ _ _) ?_ ?_ ?_ ?_ ?_
  · intro u hu; simp at hu; subst hu; rfl
  · unfold maxLen; omega
  · omega
  · simp; omega
  · intro v' w' h2 h3 _
    refine h v' w' ?_ ?_
    · unfold Row; simpa using h2
    · exact ((Below.refl B w).alloc hB _).grown h3 (by simp; omega) (fun k hk => (hown.lt k hk).1)

end PartKit
section PartRdF
open Go.RowKit

theorem conv1 (W : World) (c : UInt8) : (convert 139 9 (.slice (some ⟨W.heap.size, 0, none⟩) 1 1)).run Tryz.prog (W.alloc (.cells #[.int .u8 (c.toNat : Int)] 5)) = .ok (.string ⟨[c].toArray⟩) (W.alloc (.cells #[.int .u8 (c.toNat : Int)] 5)) := by
  have h : Row W.heap.size (W.alloc (.cells #[.int .u8 (c.toNat : Int)] 5)) (.slice (some ⟨W.heap.size, 0, none⟩) 1 1) [c] :=
    World.ownsRow_lit (base := W.heap.size) (e := 5) (size := 1) W #[.int .u8 (c.toNat : Int)] 1 (Nat.le_refl _) (by decide) rfl
  exact h.str

theorem ext_take (s : ByteArray) (b e : Nat) : s.extract b e = ⟨((s.data.toList.drop b).take (e - b)).toArray⟩ := by
  apply ByteArray.ext
  apply Array.ext'
  rw [ByteArray.data_extract, Array.toList_extract]

theorem RP.setg {B g : Nat} {w : World} {v : Value} {ps : List Pp.Pc} (h : RP B w v ps) (hg : g < B) (o : Nat) (u : Value) : RP B (w.setCell ⟨g, o, none⟩ u) v ps :=
  h.keep fun q hq _ => Below.heap_setCell _ _ _ _ (by show q ≠ g; omega)
theorem RP.draw {B : Nat} {w : World} {v : Value} {ps : List Pp.Pc} (h : RP B w v ps) (k : Nat) : RP B (w.drewN k) v ps := h.keep fun _ _ _ => rfl
theorem FB.setg {g B : Nat} {w w' : World} (h : FB g B w w') (o : Nat) (u : Value) : FB g B w (w'.setCell ⟨g, o, none⟩ u) :=
  ⟨by simpa [World.setCell] using h.1, fun k hk hkg => by rw [Below.heap_setCell _ _ _ _ (by show k ≠ g; exact hkg)]; exact h.2.1 k hk hkg, h.2.2⟩
theorem FB.draw {g B : Nat} {w w' : World} (h : FB g B w w') (k : Nat) : FB g B w (w'.drewN k) := h

theorem RdPost.ret {B g N : Nat} {s : ByteArray} {w w' : World} {R : Option (Nat × List Pp.Pc × Nat)} {e : Ending} (h : RdPost B g s w N R e w') : ∃ k : Int, e = .returned (.int .i64 k) := by
  obtain ⟨_, h⟩ := h
  cases R with
  | none => obtain ⟨k, _, _, _, _, e, _⟩ := h; exact ⟨k, e⟩
  | some r => exact ⟨_, h.1⟩
theorem RdPost.next {B g N N' : Nat} {s : ByteArray} {w w1 w' : World} {R R' : Option (Nat × List Pp.Pc × Nat)} {e : Ending} (h : RdPost B g s w1 N R e w') (hf : FB g B w w1) (hN : N ≤ N') (hR : R' = R) : RdPost B g s w N' R' e w' := by
  subst hR
  refine ⟨hf.trans h.1, ?_⟩
  have h2 := h.2
  cases R' with
  | none => obtain ⟨k, a, v, n, cs, h1, h2, h3, h4, h5⟩ := h2; exact ⟨k, a, v, n, cs, h1, h2, h3, h4, by omega⟩
  | some r => exact h2
/-- It went wrong. -/
theorem RdPost.bad {B g N a n : Nat} {s : ByteArray} {w w' : World} {v : Value} {cs : List Value} {R : Option (Nat × List Pp.Pc × Nat)} (hf : FB g B w w') (hR : Rd w' g s a true v) (hp : PR B w' v n cs) (hn : n ≤ N) (ha : a ≤ s.size) (hn0 : R = none) (k : Int) : RdPost B g s w N R (.returned (.int .i64 k)) w' := by
  subst hn0
  exact ⟨hf, k, a, v, n, cs, rfl, ha, hR, hp, hn⟩

/-- One piece without kids more. -/
theorem rdPut0 (B g a op : Nat) (s x : ByteArray) (t : List UInt8) (v : Value) (ps : List Pp.Pc) (w : World) (h : Rd w g s a false v) (hr : RP B w v ps) (hg : g < B) (hB : B ≤ w.heap.size) (ha : a ≤ s.size) (hn : ps.length ≤ 60) (hx : x = ⟨t.toArray⟩) :
    Calls Tryz.prog 118 #[.pointer (some ⟨g, 0, none⟩), .agg #[.int .i64 (op : Int), .string x, .slice none 0 0]] w (RdPost B g s w 61 ((Pp.put ps ⟨op, t, []⟩).map fun (o, k) => (a, o, k))) := by
  subst hx
  exact rdPutP B g a 0 s v ps ⟨op, t, []⟩ w w h hr (Below.refl _ _) hg hB ha hn (fun h => absurd rfl h)

set_option maxHeartbeats 1000000 in
theorem rdSetP (B g a : Nat) (s : ByteArray) (v : Value) (ps : List Pp.Pc) (w : World) (h : Rd w g s a false v) (hr : RP B w v ps) (hg : g < B) (hB : B ≤ w.heap.size) (ha : a < s.size) (hs : s.size ≤ 24) (hn : ps.length ≤ 60) :
    Calls Tryz.prog 133 #[.pointer (some ⟨g, 0, none⟩)] w (RdPost B g s w 61 (Pp.set s.data.toList (a + 1) ps)) := by
  obtain ⟨cs, hp⟩ := hr.pr
  have hlen : s.data.toList.length = s.size := by simp
  have key : ∀ (b op : Nat) (e : Ending) (w' : World), SetPost B g b ps.length op s v cs w e w' → RdPost B g s w 61 (if Pp.close (s.data.toList.drop b) b = s.data.toList.length ∨ Pp.close (s.data.toList.drop b) b = b then none
      else (Pp.put ps ⟨op, (s.data.toList.drop b).take (Pp.close (s.data.toList.drop b) b - b), []⟩).map fun (o, k) => (Pp.close (s.data.toList.drop b) b + 1, o, k)) e w' := by
    intro b op e w' hset
    rcases hset with ⟨hbad, rfl, ⟨a', ha', hR⟩, hP, hF⟩ | ⟨h1, h2, rfl, v', hR, hP, hF, hQ⟩
    · rw [if_pos (by rw [hlen]; exact hbad)]
      exact RdPost.bad (FB.fr hF hp hB) hR hP (by omega) ha' rfl 0
    · rw [if_neg (by rw [hlen]; omega)]
      refine ⟨FB.fr hF hp hB, ?_⟩
      by_cases h60 : 60 < ps.length + 1
      · simp only [Pp.put, if_pos h60, Option.map_none]
        simp only [h60, decide_true] at hR
        exact ⟨_, _, v', _, _, rfl, by omega, hR, hP, by omega⟩
      · simp only [Pp.put, if_neg h60, Option.map_some]
        simp only [h60, decide_false] at hR
        refine ⟨trivial, by omega, by simp; omega, v', hR, ?_⟩
        refine RP.put (p := ⟨op, _, []⟩) (q := 0) hr (Below.refl _ _) (fun h => absurd rfl h) hg hB hp hP ?_ (fun cs0 h0 => h0.unique hp fun _ _ => rfl) hF.2.1 hQ
        rw [ext_take]
        rfl
  refine (rdSet_any B g a ps.length s v cs w h hp hn hg hB ha hs).mono ?_
  intro e w' hpost
  unfold Pp.set
  by_cases hneg : s.data.toList[a + 1]? = some 94
  · rw [if_pos hneg] at hpost
    have e2 : (s.data.toList[a + 1]? == some 94) = true := by rw [hneg]; rfl
    simp only [e2, ↓reduceIte]
    exact key (a + 2) 4 e w' hpost
  · rw [if_neg hneg] at hpost
    have e2 : (s.data.toList[a + 1]? == some 94) = false := by simpa using hneg
    simp only [e2, Bool.false_eq_true, ↓reduceIte]
    exact key (a + 1) 3 e w' hpost
end PartRdF
section PartRdG
open Go.RowKit

/-- What a part of the reader promises: fid the part, F what it should tell, c and f how deep it may go. -/
def RdC (B g : Nat) (s : ByteArray) (fid : Nat) (F : Nat → Nat → List Pp.Pc → Option (Nat × List Pp.Pc × Nat)) (c f : Nat) : Prop :=
  ∀ (a : Nat) (v : Value) (ps : List Pp.Pc) (w : World), Rd w g s a false v → RP B w v ps → B ≤ w.heap.size → a ≤ s.size → ps.length ≤ 60 → 4 * (s.size - a) + c ≤ f →
    Calls Tryz.prog fid #[.pointer (some ⟨g, 0, none⟩)] w (RdPost B g s w (61 + f) (F f a ps))

theorem Rd.up {w w' : World} {g : Nat} {s : ByteArray} {a : Nat} {bad : Bool} {v : Value} (h : Rd w g s a bad v) (hb : Below w.heap.size w w') : Rd w' g s a bad v := (hb.block g (blk_lt h)).trans h
set_option maxRecDepth 100000 in
theorem conv2 (w : World) (g k : Nat) (z : Int) (b : UInt8) : (convert 139 9 (.slice (some ⟨w.heap.size, 0, none⟩) 1 1)).run Tryz.prog (((w.drewN k).setCell ⟨g, 1, none⟩ (.int .i64 z)).alloc (.cells #[.int .u8 (b.toNat : Int)] 5)) =
    .ok (.string ⟨[b].toArray⟩) (((w.drewN k).setCell ⟨g, 1, none⟩ (.int .i64 z)).alloc (.cells #[.int .u8 (b.toNat : Int)] 5)) := by
  have h := conv1 ((w.drewN k).setCell ⟨g, 1, none⟩ (.int .i64 z)) b
  have e : ((w.drewN k).setCell ⟨g, 1, none⟩ (.int .i64 z)).heap.size = w.heap.size := by simp [World.setCell]
  rwa [e] at h
set_option maxRecDepth 100000 in
theorem conv3 (w : World) (g k k2 : Nat) (z z2 : Int) (b : UInt8) : (convert 139 9 (.slice (some ⟨w.heap.size, 0, none⟩) 1 1)).run Tryz.prog (((((w.drewN k).setCell ⟨g, 1, none⟩ (.int .i64 z)).drewN k2).setCell ⟨g, 1, none⟩ (.int .i64 z2)).alloc (.cells #[.int .u8 (b.toNat : Int)] 5)) =
    .ok (.string ⟨[b].toArray⟩) (((((w.drewN k).setCell ⟨g, 1, none⟩ (.int .i64 z)).drewN k2).setCell ⟨g, 1, none⟩ (.int .i64 z2)).alloc (.cells #[.int .u8 (b.toNat : Int)] 5)) := by
  have h := conv2 ((w.drewN k).setCell ⟨g, 1, none⟩ (.int .i64 z)) g k2 z2 b
  have e : ((w.drewN k).setCell ⟨g, 1, none⟩ (.int .i64 z)).heap.size = w.heap.size := by simp [World.setCell]
  rwa [e] at h
theorem getAt (s : ByteArray) (a : Nat) (h : a < s.size) : s.data.toList[a]? = some s[a] := by
  rw [List.getElem?_eq_getElem (by simpa using h)]; rfl

set_option maxHeartbeats 2000000 in
set_option maxRecDepth 100000 in
theorem thing94 (B g : Nat) (s : ByteArray) (f : Nat) (hg : g < B) (hs : s.size ≤ 24) (a : Nat) (v : Value) (ps : List Pp.Pc) (w : World) (h : Rd w g s a false v) (hr : RP B w v ps) (hB : B ≤ w.heap.size) (ha : a < s.size) (hn : ps.length ≤ 60) (hx : s[a].toNat = 94) :
    Calls Tryz.prog 130 #[.pointer (some ⟨g, 0, none⟩)] w (RdPost B g s w (61 + (f + 1)) (Pp.thing s.data.toList (f + 1) a ps)) := by
  have hget := getAt s a ha
  have h256 : s[a].toNat < 256 := s[a].toNat_lt
  obtain ⟨c0, c1, c2, c3, f0, f1, f2, f3⟩ := cells4 h
  have dl : decide ((s.size : Int) ≤ (a : Int)) = false := decide_eq_false (by omega)
  have hi : (a : Int) < (s.size : Int) := by omega
  have HR0 : Hid (Rd w g s a false v) := h
  have HP0 : Hid (RP B w v ps) := hr
  have hb : s[a] = 94 := UInt8.toNat_inj.1 hx
  have HE : Hid (Pp.thing s.data.toList (f + 1) a ps = (Pp.put ps ⟨10, [], []⟩).map fun (o, k) => (a + 1, o, k)) := by
    show _ = _
    rw [Pp.thing, hget, hb]
    rfl
  have d94 : ((s[a].toNat : Int) == 94) = true := by rw [hx]; rfl
  clear hget hb hx h hr
  go_enter Tryz.func130, Tryz.ntmps130
  go_wp2_with fail
  go_quiet (fail)
  go_wp2_with fail
  go_quiet (fail)
  go_wp2_with fail
  refine (rdPut0 B g (a + 1) 10 s _ [] v ps _ (Rd.at (Rd.draw HR0.out _) _ (a + 1) (by omega)) (RP.setg (RP.draw HP0.out _) hg 1 _) hg (by simpa [World.setCell] using hB) (by omega) hn rfl).mono ?_
  intro e w5 hpost
  have HPO : Hid (RdPost B g s w (61 + (f + 1)) (Pp.thing s.data.toList (f + 1) a ps) e w5) := hpost.next (FB.setg (FB.draw (FB.refl g B w) _) 1 _) (by omega) HE.out
  obtain ⟨k, rfl⟩ := hpost.ret
  clear hpost
  go_wp2
  go_ret
  exact HPO.out

set_option maxHeartbeats 2000000 in
set_option maxRecDepth 100000 in
theorem thing36 (B g : Nat) (s : ByteArray) (f : Nat) (hg : g < B) (hs : s.size ≤ 24) (a : Nat) (v : Value) (ps : List Pp.Pc) (w : World) (h : Rd w g s a false v) (hr : RP B w v ps) (hB : B ≤ w.heap.size) (ha : a < s.size) (hn : ps.length ≤ 60) (hx : s[a].toNat = 36) :
    Calls Tryz.prog 130 #[.pointer (some ⟨g, 0, none⟩)] w (RdPost B g s w (61 + (f + 1)) (Pp.thing s.data.toList (f + 1) a ps)) := by
  have hget := getAt s a ha
  have h256 : s[a].toNat < 256 := s[a].toNat_lt
  obtain ⟨c0, c1, c2, c3, f0, f1, f2, f3⟩ := cells4 h
  have dl : decide ((s.size : Int) ≤ (a : Int)) = false := decide_eq_false (by omega)
  have hi : (a : Int) < (s.size : Int) := by omega
  have HR0 : Hid (Rd w g s a false v) := h
  have HP0 : Hid (RP B w v ps) := hr
  have hb : s[a] = 36 := UInt8.toNat_inj.1 hx
  have HE : Hid (Pp.thing s.data.toList (f + 1) a ps = (Pp.put ps ⟨11, [], []⟩).map fun (o, k) => (a + 1, o, k)) := by
    show _ = _
    rw [Pp.thing, hget, hb]
    rfl
  have d94 : ((s[a].toNat : Int) == 94) = false := by rw [hx]; rfl
  have d36 : ((s[a].toNat : Int) == 36) = true := by rw [hx]; rfl
  clear hget hb hx h hr
  go_enter Tryz.func130, Tryz.ntmps130
  go_wp2_with fail
  go_quiet (fail)
  go_wp2_with fail
  go_quiet (fail)
  go_wp2_with fail
  refine (rdPut0 B g (a + 1) 11 s _ [] v ps _ (Rd.at (Rd.draw HR0.out _) _ (a + 1) (by omega)) (RP.setg (RP.draw HP0.out _) hg 1 _) hg (by simpa [World.setCell] using hB) (by omega) hn rfl).mono ?_
  intro e w5 hpost
  have HPO : Hid (RdPost B g s w (61 + (f + 1)) (Pp.thing s.data.toList (f + 1) a ps) e w5) := hpost.next (FB.setg (FB.draw (FB.refl g B w) _) 1 _) (by omega) HE.out
  obtain ⟨k, rfl⟩ := hpost.ret
  clear hpost
  go_wp2
  go_ret
  exact HPO.out

set_option maxHeartbeats 2000000 in
set_option maxRecDepth 100000 in
theorem thing46 (B g : Nat) (s : ByteArray) (f : Nat) (hg : g < B) (hs : s.size ≤ 24) (a : Nat) (v : Value) (ps : List Pp.Pc) (w : World) (h : Rd w g s a false v) (hr : RP B w v ps) (hB : B ≤ w.heap.size) (ha : a < s.size) (hn : ps.length ≤ 60) (hx : s[a].toNat = 46) :
    Calls Tryz.prog 130 #[.pointer (some ⟨g, 0, none⟩)] w (RdPost B g s w (61 + (f + 1)) (Pp.thing s.data.toList (f + 1) a ps)) := by
  have hget := getAt s a ha
  have h256 : s[a].toNat < 256 := s[a].toNat_lt
  obtain ⟨c0, c1, c2, c3, f0, f1, f2, f3⟩ := cells4 h
  have dl : decide ((s.size : Int) ≤ (a : Int)) = false := decide_eq_false (by omega)
  have hi : (a : Int) < (s.size : Int) := by omega
  have HR0 : Hid (Rd w g s a false v) := h
  have HP0 : Hid (RP B w v ps) := hr
  have hb : s[a] = 46 := UInt8.toNat_inj.1 hx
  have HE : Hid (Pp.thing s.data.toList (f + 1) a ps = (Pp.put ps ⟨2, [], []⟩).map fun (o, k) => (a + 1, o, k)) := by
    show _ = _
    rw [Pp.thing, hget, hb]
    rfl
  have d94 : ((s[a].toNat : Int) == 94) = false := by rw [hx]; rfl
  have d36 : ((s[a].toNat : Int) == 36) = false := by rw [hx]; rfl
  have d46 : ((s[a].toNat : Int) == 46) = true := by rw [hx]; rfl
  clear hget hb hx h hr
  go_enter Tryz.func130, Tryz.ntmps130
  go_wp2_with fail
  go_quiet (fail)
  go_wp2_with fail
  go_quiet (fail)
  go_wp2_with fail
  refine (rdPut0 B g (a + 1) 2 s _ [] v ps _ (Rd.at (Rd.draw HR0.out _) _ (a + 1) (by omega)) (RP.setg (RP.draw HP0.out _) hg 1 _) hg (by simpa [World.setCell] using hB) (by omega) hn rfl).mono ?_
  intro e w5 hpost
  have HPO : Hid (RdPost B g s w (61 + (f + 1)) (Pp.thing s.data.toList (f + 1) a ps) e w5) := hpost.next (FB.setg (FB.draw (FB.refl g B w) _) 1 _) (by omega) HE.out
  obtain ⟨k, rfl⟩ := hpost.ret
  clear hpost
  go_wp2
  go_ret
  exact HPO.out

set_option maxHeartbeats 2000000 in
set_option maxRecDepth 100000 in
theorem thing91 (B g : Nat) (s : ByteArray) (f : Nat) (hg : g < B) (hs : s.size ≤ 24) (a : Nat) (v : Value) (ps : List Pp.Pc) (w : World) (h : Rd w g s a false v) (hr : RP B w v ps) (hB : B ≤ w.heap.size) (ha : a < s.size) (hn : ps.length ≤ 60) (hx : s[a].toNat = 91) :
    Calls Tryz.prog 130 #[.pointer (some ⟨g, 0, none⟩)] w (RdPost B g s w (61 + (f + 1)) (Pp.thing s.data.toList (f + 1) a ps)) := by
  have hget := getAt s a ha
  have h256 : s[a].toNat < 256 := s[a].toNat_lt
  obtain ⟨c0, c1, c2, c3, f0, f1, f2, f3⟩ := cells4 h
  have dl : decide ((s.size : Int) ≤ (a : Int)) = false := decide_eq_false (by omega)
  have hi : (a : Int) < (s.size : Int) := by omega
  have HR0 : Hid (Rd w g s a false v) := h
  have HP0 : Hid (RP B w v ps) := hr
  have hb : s[a] = 91 := UInt8.toNat_inj.1 hx
  have HE : Hid (Pp.thing s.data.toList (f + 1) a ps = Pp.set s.data.toList (a + 1) ps) := by
    show _ = _
    rw [Pp.thing, hget, hb]
    rfl
  have d94 : ((s[a].toNat : Int) == 94) = false := by rw [hx]; rfl
  have d36 : ((s[a].toNat : Int) == 36) = false := by rw [hx]; rfl
  have d46 : ((s[a].toNat : Int) == 46) = false := by rw [hx]; rfl
  have d91 : ((s[a].toNat : Int) == 91) = true := by rw [hx]; rfl
  clear hget hb hx h hr
  go_enter Tryz.func130, Tryz.ntmps130
  go_wp2_with fail
  go_quiet (fail)
  go_wp2_with fail
  go_quiet (fail)
  go_wp2_with fail
  refine (rdSetP B g a s v ps _ (Rd.draw HR0.out _) (RP.draw HP0.out _) hg hB ha hs hn).mono ?_
  intro e w5 hpost
  have HPO : Hid (RdPost B g s w (61 + (f + 1)) (Pp.thing s.data.toList (f + 1) a ps) e w5) := hpost.next (FB.draw (FB.refl g B w) _) (by omega) HE.out
  obtain ⟨k, rfl⟩ := hpost.ret
  clear hpost
  go_wp2
  go_ret
  exact HPO.out

set_option maxHeartbeats 2000000 in
set_option maxRecDepth 100000 in
theorem thing40 (B g : Nat) (s : ByteArray) (f : Nat) (hg : g < B) (hs : s.size ≤ 24) (hA : RdC B g s 108 (Pp.alt s.data.toList) 4 f) (a : Nat) (v : Value) (ps : List Pp.Pc) (w : World) (h : Rd w g s a false v) (hr : RP B w v ps) (hB : B ≤ w.heap.size) (ha : a < s.size) (hn : ps.length ≤ 60) (hd : 4 * (s.size - a) + 1 ≤ f + 1) (hx : s[a].toNat = 40) :
    Calls Tryz.prog 130 #[.pointer (some ⟨g, 0, none⟩)] w (RdPost B g s w (61 + (f + 1)) (Pp.thing s.data.toList (f + 1) a ps)) := by
  have hget := getAt s a ha
  have h256 : s[a].toNat < 256 := s[a].toNat_lt
  obtain ⟨c0, c1, c2, c3, f0, f1, f2, f3⟩ := cells4 h
  have dl : decide ((s.size : Int) ≤ (a : Int)) = false := decide_eq_false (by omega)
  have hi : (a : Int) < (s.size : Int) := by omega
  have HR0 : Hid (Rd w g s a false v) := h
  have HP0 : Hid (RP B w v ps) := hr
  have hb : s[a] = 40 := UInt8.toNat_inj.1 hx
  have HE : Hid (Pp.thing s.data.toList (f + 1) a ps = match Pp.alt s.data.toList f (a + 1) ps with
      | none => none
      | some (e, o, k) => if s.data.toList[e]? = some 41 then some (e + 1, o, k) else none) := by
    show _ = _
    rw [Pp.thing, hget, hb]
    rfl
  have d94 : ((s[a].toNat : Int) == 94) = false := by rw [hx]; rfl
  have d36 : ((s[a].toNat : Int) == 36) = false := by rw [hx]; rfl
  have d46 : ((s[a].toNat : Int) == 46) = false := by rw [hx]; rfl
  have d91 : ((s[a].toNat : Int) == 91) = false := by rw [hx]; rfl
  have d40 : ((s[a].toNat : Int) == 40) = true := by rw [hx]; rfl
  clear hget hb hx h hr
  have HA : Hid (∀ (w1 : World), Rd w1 g s (a + 1) false v → RP B w1 v ps → B ≤ w1.heap.size → Calls Tryz.prog 108 #[.pointer (some ⟨g, 0, none⟩)] w1 (RdPost B g s w1 (61 + f) (Pp.alt s.data.toList f (a + 1) ps))) :=
    fun w1 h1 h2 h3 => hA (a + 1) v ps w1 h1 h2 h3 (by omega) hn (by omega)
  clear hA
  go_enter Tryz.func130, Tryz.ntmps130
  go_wp2_with fail
  go_quiet (fail)
  go_wp2_with fail
  go_quiet (fail)
  go_wp2_with fail
  refine (HA.out _ (Rd.at (Rd.draw HR0.out _) _ (a + 1) (by omega)) (RP.setg (RP.draw HP0.out _) hg 1 _) (by simpa [World.setCell] using hB)).mono ?_
  intro e w5 hpost
  clear HA
  obtain ⟨hfb, hpost⟩ := hpost
  have HF5 : Hid (FB g B w w5) := (FB.setg (FB.draw (FB.refl g B w) _) 1 _).trans hfb
  clear hfb
  cases hR : Pp.alt s.data.toList f (a + 1) ps with
  | none =>
    rw [hR] at hpost
    obtain ⟨k, a5, v5, n5, cs5, rfl, ha5, r5, p5, hn5⟩ := hpost
    have HT : Hid (Pp.thing s.data.toList (f + 1) a ps = none) := by show _ = _; rw [HE.out, hR]
    clear HE hR
    have CI := rdIs_any g a5 41 s true v5 w5 r5 ha5 (by decide)
    go_wp2_with fail
    refine CI.mono ?_
    rintro e w6 ⟨rfl, k6, rfl⟩
    clear CI
    obtain ⟨e0, e1, e2, e3, g0, g1, g2, g3⟩ := cells4 (r5.draw k6)
    go_wp2
    go_ret
    exact RdPost.bad (FB.setg (FB.draw HF5.out _) 2 _) (Rd.bad (Rd.draw r5 _)) (PR.set (B := B) (w := w5.drewN _) p5 hg 2 _) (by omega) ha5 HT.out 0
  | some r =>
    obtain ⟨e1, o, k⟩ := r
    rw [hR] at hpost
    obtain ⟨rfl, ha5, ho, v5, r5, p5⟩ := hpost
    have CI := rdIs_any g e1 41 s false v5 w5 r5 ha5 (by decide)
    have e41 : UInt8.ofNat 41 = 41 := rfl
    rw [e41] at CI
    by_cases h41 : s.data.toList[e1]? = some 41
    · rw [decide_eq_true h41] at CI
      have hlt : e1 < s.size := by
        have := (List.getElem?_eq_some_iff.1 h41).1
        simpa using this
      have HT : Hid (Pp.thing s.data.toList (f + 1) a ps = some (e1 + 1, o, k)) := by show _ = _; rw [HE.out, hR]; simp only [h41, ↓reduceIte]
      clear HE hR h41
      go_wp2_with fail
      refine CI.mono ?_
      rintro e w6 ⟨rfl, k6, rfl⟩
      clear CI
      obtain ⟨x0, x1, x2, x3, g0, g1, g2, g3⟩ := cells4 (r5.draw k6)
      go_wp2
      go_ret
      refine ⟨FB.setg (FB.draw HF5.out _) 1 _, ?_⟩
      rw [HT.out]
      exact ⟨rfl, by omega, ho, v5, Rd.at (Rd.draw r5 _) _ (e1 + 1) (by omega), RP.setg (RP.draw p5 _) hg 1 _⟩
    · rw [decide_eq_false h41] at CI
      have HT : Hid (Pp.thing s.data.toList (f + 1) a ps = none) := by show _ = _; rw [HE.out, hR]; simp only [h41, ↓reduceIte]
      clear HE hR h41
      obtain ⟨cs5, q5⟩ := p5.pr
      go_wp2_with fail
      refine CI.mono ?_
      rintro e w6 ⟨rfl, k6, rfl⟩
      clear CI
      obtain ⟨x0, x1, x2, x3, g0, g1, g2, g3⟩ := cells4 (r5.draw k6)
      go_wp2
      go_ret
      exact RdPost.bad (FB.setg (FB.draw HF5.out _) 2 _) (Rd.bad (Rd.draw r5 _)) (PR.set (B := B) (w := w5.drewN _) q5 hg 2 _) (by omega) ha5 HT.out 0

set_option maxHeartbeats 2000000 in
set_option maxRecDepth 100000 in
theorem thing92 (B g : Nat) (s : ByteArray) (f : Nat) (hg : g < B) (hs : s.size ≤ 24) (a : Nat) (v : Value) (ps : List Pp.Pc) (w : World) (h : Rd w g s a false v) (hr : RP B w v ps) (hB : B ≤ w.heap.size) (ha : a < s.size) (hn : ps.length ≤ 60) (hx : s[a].toNat = 92) :
    Calls Tryz.prog 130 #[.pointer (some ⟨g, 0, none⟩)] w (RdPost B g s w (61 + (f + 1)) (Pp.thing s.data.toList (f + 1) a ps)) := by
  have hget := getAt s a ha
  have h256 : s[a].toNat < 256 := s[a].toNat_lt
  obtain ⟨c0, c1, c2, c3, f0, f1, f2, f3⟩ := cells4 h
  have dl : decide ((s.size : Int) ≤ (a : Int)) = false := decide_eq_false (by omega)
  have hi : (a : Int) < (s.size : Int) := by omega
  have HR0 : Hid (Rd w g s a false v) := h
  have HP0 : Hid (RP B w v ps) := hr
  have hb : s[a] = 92 := UInt8.toNat_inj.1 hx
  have HE : Hid (Pp.thing s.data.toList (f + 1) a ps = match s.data.toList[a + 1]? with
      | none => none
      | some c => if Pp.special c then (Pp.put ps ⟨1, [c], []⟩).map fun (o, k) => (a + 2, o, k) else none) := by
    show _ = _
    rw [Pp.thing, hget, hb]
    rfl
  have d94 : ((s[a].toNat : Int) == 94) = false := by rw [hx]; rfl
  have d36 : ((s[a].toNat : Int) == 36) = false := by rw [hx]; rfl
  have d46 : ((s[a].toNat : Int) == 46) = false := by rw [hx]; rfl
  have d91 : ((s[a].toNat : Int) == 91) = false := by rw [hx]; rfl
  have d40 : ((s[a].toNat : Int) == 40) = false := by rw [hx]; rfl
  have d92 : ((s[a].toNat : Int) == 92) = true := by rw [hx]; rfl
  clear hget hb hx h hr
  obtain ⟨cs, hp⟩ := HP0.out.pr
  have HPR : Hid (PR B w v ps.length cs) := hp
  clear hp
  by_cases hlt : a + 1 < s.size
  · have hget1 := getAt s (a + 1) hlt
    obtain ⟨b, hbb⟩ : ∃ b, b = s[a + 1] := ⟨_, rfl⟩
    rw [← hbb] at hget1
    have h2561 : b.toNat < 256 := b.toNat_lt
    have hidx : s[a + 1] = b := hbb.symm
    have dl1 : decide ((s.size : Int) ≤ (a : Int) + 1) = false := decide_eq_false (by omega)
    have hi1 : (a : Int) + 1 < (s.size : Int) := by omega
    have hj1 : ((a : Int) + 1).toNat = a + 1 := by omega
    have CS : Hid (∀ w' : World, Calls Tryz.prog 134 #[.int .u8 (b.toNat : Int)] w' fun e w'' => e = .returned (.bool (Pp.special b)) ∧ w'' = w') := fun w' => special_any b w'
    cases hsp : Pp.special b with
    | true =>
      rw [hsp] at CS
      have HT : Hid (Pp.thing s.data.toList (f + 1) a ps = (Pp.put ps ⟨1, [b], []⟩).map fun (o, k) => (a + 2, o, k)) := by show _ = _; rw [HE.out, hget1]; simp only [hsp, ↓reduceIte]
      clear HE hsp hget1 hbb HPR
      have hcv := fun k k2 => conv3 w g k k2 ((a : Int) + 1) ((a : Int) + 1 + 1) b
      go_enter Tryz.func130, Tryz.ntmps130
      go_wp2_with fail
      go_quiet (fail)
      go_wp2_with fail
      go_quiet (fail)
      go_wp2_with fail
      go_quiet ((go_at_call 134; refine Calls.quiet_of_same (CS.out _)))
      go_wp2_with fail
      go_quiet (fail)
      go_wp2_with fail
      have HR1 := fun k k2 => Rd.at (Rd.draw (Rd.at (Rd.draw HR0.out k) ((a : Int) + 1) (a + 1) (by omega)) k2) ((a : Int) + 1 + 1) (a + 2) (by omega)
      have HP1 := fun k k2 => RP.setg (RP.draw (RP.setg (RP.draw HP0.out k) hg 1 (.int .i64 ((a : Int) + 1))) k2) hg 1 (.int .i64 ((a : Int) + 1 + 1))
      have HF1 := fun k k2 => FB.setg (FB.draw (FB.setg (FB.draw (FB.refl g B w) k) 1 (.int .i64 ((a : Int) + 1))) k2) 1 (.int .i64 ((a : Int) + 1 + 1))
      have HUP : ∀ (W : World) (o : Obj), Below W.heap.size W (W.alloc o) := fun W o => (Below.refl _ _).alloc (Nat.le_refl _) _
      refine (rdPut0 B g (a + 2) 1 s _ [b] v ps _ (Rd.up (HR1 _ _) (HUP _ _)) (RP.up (HP1 _ _) (HUP _ _)) hg (by simp [World.setCell]; omega) (by omega) hn rfl).mono ?_
      intro e w5 hpost
      have HPO : Hid (RdPost B g s w (61 + (f + 1)) (Pp.thing s.data.toList (f + 1) a ps) e w5) := hpost.next ((HF1 _ _).trans (FB.of ((HUP _ _).mono (by simp [World.setCell]; omega)))) (by omega) HT.out
      obtain ⟨k, rfl⟩ := hpost.ret
      clear hpost HR1 HP1 HF1 HUP
      go_wp2
      go_ret
      exact HPO.out
    | false =>
      rw [hsp] at CS
      have HT : Hid (Pp.thing s.data.toList (f + 1) a ps = none) := by show _ = _; rw [HE.out, hget1]; simp only [hsp, Bool.false_eq_true, ↓reduceIte]
      clear HE hsp hget1 hbb
      go_enter Tryz.func130, Tryz.ntmps130
      go_wp2_with fail
      go_quiet (fail)
      go_wp2_with fail
      go_quiet (fail)
      go_wp2_with fail
      go_quiet ((go_at_call 134; refine Calls.quiet_of_same (CS.out _)))
      go_wp2
      go_ret
      exact RdPost.bad (FB.setg (FB.draw (FB.setg (FB.draw (FB.refl g B w) _) 1 _) _) 2 _) (Rd.bad (Rd.draw (Rd.at (Rd.draw HR0.out _) _ (a + 1) (by omega)) _)) (PR.set (B := B) (PR.set (B := B) (w := w.drewN _) HPR.out hg 1 _) hg 2 _) (by omega) (by omega) HT.out 0
  · have hget1 : s.data.toList[a + 1]? = none := List.getElem?_eq_none (by simp; omega)
    have HT : Hid (Pp.thing s.data.toList (f + 1) a ps = none) := by show _ = _; rw [HE.out, hget1]
    have dl1 : decide ((s.size : Int) ≤ (a : Int) + 1) = true := decide_eq_true (by omega)
    clear HE hget1
    go_enter Tryz.func130, Tryz.ntmps130
    go_wp2_with fail
    go_quiet (fail)
    go_wp2_with fail
    go_quiet (fail)
    go_wp2_with fail
    go_quiet (fail)
    go_wp2
    go_ret
    exact RdPost.bad (FB.setg (FB.draw (FB.setg (FB.draw (FB.refl g B w) _) 1 _) _) 2 _) (Rd.bad (Rd.draw (Rd.at (Rd.draw HR0.out _) _ (a + 1) (by omega)) _)) (PR.set (B := B) (PR.set (B := B) (w := w.drewN _) HPR.out hg 1 _) hg 2 _) (by omega) (by omega) HT.out 0

set_option maxHeartbeats 2000000 in
set_option maxRecDepth 100000 in
theorem thingOther (B g : Nat) (s : ByteArray) (f : Nat) (hg : g < B) (hs : s.size ≤ 24) (a : Nat) (v : Value) (ps : List Pp.Pc) (w : World) (h : Rd w g s a false v) (hr : RP B w v ps) (hB : B ≤ w.heap.size) (ha : a < s.size) (hn : ps.length ≤ 60) (hx : s[a].toNat ≠ 94 ∧ s[a].toNat ≠ 36 ∧ s[a].toNat ≠ 46 ∧ s[a].toNat ≠ 91 ∧ s[a].toNat ≠ 40 ∧ s[a].toNat ≠ 92) :
    Calls Tryz.prog 130 #[.pointer (some ⟨g, 0, none⟩)] w (RdPost B g s w (61 + (f + 1)) (Pp.thing s.data.toList (f + 1) a ps)) := by
  have hget := getAt s a ha
  have h256 : s[a].toNat < 256 := s[a].toNat_lt
  obtain ⟨c0, c1, c2, c3, f0, f1, f2, f3⟩ := cells4 h
  have dl : decide ((s.size : Int) ≤ (a : Int)) = false := decide_eq_false (by omega)
  have hi : (a : Int) < (s.size : Int) := by omega
  have HR0 : Hid (Rd w g s a false v) := h
  have HP0 : Hid (RP B w v ps) := hr
  obtain ⟨h94, h36, h46, h91, h40, h92⟩ := hx
  obtain ⟨b, hbb⟩ : ∃ b, b = s[a] := ⟨_, rfl⟩
  have HE : Hid (Pp.thing s.data.toList (f + 1) a ps = if Pp.special b then none else (Pp.put ps ⟨1, [b], []⟩).map fun (o, k) => (a + 1, o, k)) := by
    show _ = _
    have n94 : ¬ b = 94 := by rw [hbb]; intro e; apply h94; rw [e]; rfl
    have n36 : ¬ b = 36 := by rw [hbb]; intro e; apply h36; rw [e]; rfl
    have n46 : ¬ b = 46 := by rw [hbb]; intro e; apply h46; rw [e]; rfl
    have n91 : ¬ b = 91 := by rw [hbb]; intro e; apply h91; rw [e]; rfl
    have n40 : ¬ b = 40 := by rw [hbb]; intro e; apply h40; rw [e]; rfl
    have n92 : ¬ b = 92 := by rw [hbb]; intro e; apply h92; rw [e]; rfl
    rw [Pp.thing, hget, ← hbb]
    simp only [n94, n36, n46, n91, n40, n92, ↓reduceIte]
  have d94 : ((s[a].toNat : Int) == 94) = false := by simp only [beq_eq_false_iff_ne, ne_eq]; omega
  have d36 : ((s[a].toNat : Int) == 36) = false := by simp only [beq_eq_false_iff_ne, ne_eq]; omega
  have d46 : ((s[a].toNat : Int) == 46) = false := by simp only [beq_eq_false_iff_ne, ne_eq]; omega
  have d91 : ((s[a].toNat : Int) == 91) = false := by simp only [beq_eq_false_iff_ne, ne_eq]; omega
  have d40 : ((s[a].toNat : Int) == 40) = false := by simp only [beq_eq_false_iff_ne, ne_eq]; omega
  have d92 : ((s[a].toNat : Int) == 92) = false := by simp only [beq_eq_false_iff_ne, ne_eq]; omega
  rw [← hbb] at d94 d36 d46 d91 d40 d92 h256
  have hidx : s[a] = b := hbb.symm
  have CS : Hid (∀ w' : World, Calls Tryz.prog 134 #[.int .u8 (b.toNat : Int)] w' fun e w'' => e = .returned (.bool (Pp.special b)) ∧ w'' = w') := fun w' => special_any b w'
  clear hget h94 h36 h46 h91 h40 h92 h hr hbb
  cases hsp : Pp.special b with
  | true =>
    rw [hsp] at CS HE
    have HT : Hid (Pp.thing s.data.toList (f + 1) a ps = none) := by show _ = _; rw [HE.out]; rfl
    clear HE hsp
    obtain ⟨cs, hp⟩ := HP0.out.pr
    have HPR : Hid (PR B w v ps.length cs) := hp
    clear hp
    go_enter Tryz.func130, Tryz.ntmps130
    go_wp2_with fail
    go_quiet (fail)
    go_wp2_with fail
    go_quiet (fail)
    go_wp2_with fail
    refine (CS.out _).mono ?_
    rintro e w1 ⟨rfl, rfl⟩
    go_wp2
    go_ret
    exact RdPost.bad (FB.setg (FB.draw (FB.refl g B w) _) 2 _) (Rd.bad (Rd.draw HR0.out _)) (PR.set (B := B) (w := w.drewN _) HPR.out hg 2 _) (by omega) (by omega) HT.out 0
  | false =>
    rw [hsp] at CS HE
    have HT : Hid (Pp.thing s.data.toList (f + 1) a ps = (Pp.put ps ⟨1, [b], []⟩).map fun (o, k) => (a + 1, o, k)) := by show _ = _; rw [HE.out]; rfl
    clear HE hsp
    have hcv := fun k => conv2 w g k ((a : Int) + 1) b
    go_enter Tryz.func130, Tryz.ntmps130
    go_wp2_with fail
    go_quiet (fail)
    go_wp2_with fail
    go_quiet (fail)
    go_wp2_with fail
    refine (CS.out _).mono ?_
    rintro e w1 ⟨rfl, rfl⟩
    go_wp2_with fail
    have HUP : Hid (∀ (k : Nat) (o : Obj), Below ((w.drewN k).setCell ⟨g, 1, none⟩ (.int .i64 ((a : Int) + 1))).heap.size ((w.drewN k).setCell ⟨g, 1, none⟩ (.int .i64 ((a : Int) + 1))) (((w.drewN k).setCell ⟨g, 1, none⟩ (.int .i64 ((a : Int) + 1))).alloc o)) := fun k o => (Below.refl _ _).alloc (Nat.le_refl _) _
    refine (rdPut0 B g (a + 1) 1 s _ [b] v ps _ (Rd.up (Rd.at (Rd.draw HR0.out _) _ (a + 1) (by omega)) (HUP.out _ _)) (RP.up (RP.setg (RP.draw HP0.out _) hg 1 _) (HUP.out _ _)) hg (by simp [World.setCell]; omega) (by omega) hn rfl).mono ?_
    intro e w5 hpost
    have HPO : Hid (RdPost B g s w (61 + (f + 1)) (Pp.thing s.data.toList (f + 1) a ps) e w5) := hpost.next ((FB.setg (FB.draw (FB.refl g B w) _) 1 _).trans (FB.of ((HUP.out _ _).mono (by simp [World.setCell]; omega)))) (by omega) HT.out
    obtain ⟨k, rfl⟩ := hpost.ret
    clear hpost
    go_wp2
    go_ret
    exact HPO.out

set_option maxRecDepth 100000 in
/-- A thing. -/
theorem rdThing (B g : Nat) (s : ByteArray) (f : Nat) (hg : g < B) (hs : s.size ≤ 24) (hA : RdC B g s 108 (Pp.alt s.data.toList) 4 f) (a : Nat) (v : Value) (ps : List Pp.Pc) (w : World) (h : Rd w g s a false v) (hr : RP B w v ps) (hB : B ≤ w.heap.size) (ha : a < s.size) (hn : ps.length ≤ 60) (hd : 4 * (s.size - a) + 1 ≤ f + 1) :
    Calls Tryz.prog 130 #[.pointer (some ⟨g, 0, none⟩)] w (RdPost B g s w (61 + (f + 1)) (Pp.thing s.data.toList (f + 1) a ps)) := by
  by_cases h94 : s[a].toNat = 94
  · exact thing94 B g s f hg hs a v ps w h hr hB ha hn h94
  by_cases h36 : s[a].toNat = 36
  · exact thing36 B g s f hg hs a v ps w h hr hB ha hn h36
  by_cases h46 : s[a].toNat = 46
  · exact thing46 B g s f hg hs a v ps w h hr hB ha hn h46
  by_cases h91 : s[a].toNat = 91
  · exact thing91 B g s f hg hs a v ps w h hr hB ha hn h91
  by_cases h40 : s[a].toNat = 40
  · exact thing40 B g s f hg hs hA a v ps w h hr hB ha hn hd h40
  by_cases h92 : s[a].toNat = 92
  · exact thing92 B g s f hg hs a v ps w h hr hB ha hn h92
  exact thingOther B g s f hg hs a v ps w h hr hB ha hn ⟨h94, h36, h46, h91, h40, h92⟩
end PartRdG
section PartRdH
open Go.RowKit

/-- The sign's kind. -/
def mop (b : UInt8) : Nat := if b = 43 then 8 else if b = 63 then 9 else 7

theorem more_end (l : List UInt8) (f a : Nat) (ps : List Pp.Pc) (k : Nat) (h : ∀ b, l[a]? = some b → ¬ (b = 42 ∨ b = 43 ∨ b = 63)) : Pp.more l (f + 1) a ps k = some (a, ps, k) := by
  rw [Pp.more]
  cases hb : l[a]? with
  | none => rfl
  | some b => simp only [h b hb, ↓reduceIte]
theorem more_go (l : List UInt8) (f a : Nat) (ps : List Pp.Pc) (k : Nat) (b : UInt8) (hb : l[a]? = some b) (h : b = 42 ∨ b = 43 ∨ b = 63) : Pp.more l (f + 1) a ps k = match Pp.put ps ⟨mop b, [], [k]⟩ with
    | none => none
    | some (o, j) => Pp.more l f (a + 1) o j := by
  rw [Pp.more, hb]
  simp only [h, ↓reduceIte]
  rfl

/-- The kids of a piece, as they are written down just ahead of it. -/
theorem rkids1 (W : World) (k : Nat) : KidsBlk (W.alloc (.cells #[.int .i64 (k : Int)] 3)) W.heap.size ([k].map Int.ofNat) := heap_alloc_new W _
theorem rkids2 (W : World) (k j : Nat) : KidsBlk (W.alloc (.cells #[.int .i64 (k : Int), .int .i64 (j : Int)] 3)) W.heap.size ([k, j].map Int.ofNat) := heap_alloc_new W _

set_option maxRecDepth 100000 in
/-- One piece with one kid more, its kids' block new. -/
theorem rdPut1 (B g a op k q : Nat) (z : Int) (s : ByteArray) (v : Value) (ps : List Pp.Pc) (w : World) (h : Rd w g s a false v) (hr : RP B w v ps) (hg : g < B) (hB : B ≤ w.heap.size) (ha : a ≤ s.size) (hn : ps.length ≤ 60) (hz : z = (k : Int)) (hq : q = w.heap.size) :
    Calls Tryz.prog 118 #[.pointer (some ⟨g, 0, none⟩), .agg #[.int .i64 (op : Int), .string ⟨#[]⟩, .slice (some ⟨q, 0, none⟩) 1 1]] (w.alloc (.cells #[.int .i64 z] 3)) (RdPost B g s w 61 ((Pp.put ps ⟨op, [], [k]⟩).map fun (o, k) => (a, o, k))) := by
  subst hz hq
  have hb : Below w.heap.size w (w.alloc (.cells #[.int .i64 (k : Int)] 3)) := (Below.refl _ _).alloc (Nat.le_refl _) _
  exact (rdPutP B g a w.heap.size s v ps ⟨op, [], [k]⟩ w _ (h.up hb) hr hb hg hB ha hn (fun _ => ⟨Nat.le_refl _, by simp, rkids1 w k⟩)).mono fun e w' hp => hp.next (FB.of (hb.mono hB)) (Nat.le_refl _) rfl
set_option maxRecDepth 100000 in
theorem rdPut2 (B g a op k j q : Nat) (z z2 : Int) (s : ByteArray) (v : Value) (ps : List Pp.Pc) (w : World) (h : Rd w g s a false v) (hr : RP B w v ps) (hg : g < B) (hB : B ≤ w.heap.size) (ha : a ≤ s.size) (hn : ps.length ≤ 60) (hz : z = (k : Int)) (hz2 : z2 = (j : Int)) (hq : q = w.heap.size) :
    Calls Tryz.prog 118 #[.pointer (some ⟨g, 0, none⟩), .agg #[.int .i64 (op : Int), .string ⟨#[]⟩, .slice (some ⟨q, 0, none⟩) 2 2]] (w.alloc (.cells #[.int .i64 z, .int .i64 z2] 3)) (RdPost B g s w 61 ((Pp.put ps ⟨op, [], [k, j]⟩).map fun (o, k) => (a, o, k))) := by
  subst hz hz2 hq
  have hb : Below w.heap.size w (w.alloc (.cells #[.int .i64 (k : Int), .int .i64 (j : Int)] 3)) := (Below.refl _ _).alloc (Nat.le_refl _) _
  exact (rdPutP B g a w.heap.size s v ps ⟨op, [], [k, j]⟩ w _ (h.up hb) hr hb hg hB ha hn (fun _ => ⟨Nat.le_refl _, by simp, rkids2 w k j⟩)).mono fun e w' hp => hp.next (FB.of (hb.mono hB)) (Nat.le_refl _) rfl

set_option maxRecDepth 100000 in
/-- What is put behind a fault: it stays one. -/
theorem rdPutBad (B g a op n : Nat) (s t : ByteArray) (v : Value) (cs : List Value) (ka : Option Addr) (kl kc : Nat) (w : World) (h : Rd w g s a true v) (hp : PR B w v n cs) (hg : g < B) (hB : B ≤ w.heap.size) (hn : n ≤ 1000) :
    Calls Tryz.prog 118 #[.pointer (some ⟨g, 0, none⟩), .agg #[.int .i64 (op : Int), .string t, .slice ka kl kc]] w fun e w' => e = .returned (.int .i64 (n : Int)) ∧ FB g B w w' ∧ ∃ v' cs', Rd w' g s a true v' ∧ PR B w' v' (n + 1) cs' := by
  refine (rdPut_any B g a n op s t v cs ka kl kc true w h hp hn hg hB).mono ?_
  rintro e w' ⟨v', rfl, hR, hP, hs, hf, _, hen⟩
  exact ⟨rfl, FB.fr ⟨hs, hf, hen⟩ hp hB, v', _, hR, hP⟩

set_option maxRecDepth 100000 in
/-- Is it c that comes next? As it stands. -/
theorem isYes (g a c : Nat) (s : ByteArray) (v : Value) (w : World) (h : Rd w g s a false v) (ha : a < s.size) (hc : s[a].toNat = c) :
    Calls Tryz.prog 117 #[.pointer (some ⟨g, 0, none⟩), .int .u8 (c : Int)] w fun e w' => e = .returned (.bool true) ∧ ∃ k, w' = w.drewN k := by
  have hc2 : c < 256 := by rw [← hc]; exact s[a].toNat_lt
  have := rdIs_any g a c s false v w h (by omega) hc2
  have e : decide (s.data.toList[a]? = some (UInt8.ofNat c)) = true := by
    rw [getAt s a ha, ← hc]
    simp
  rw [e] at this
  exact this
set_option maxRecDepth 100000 in
theorem isNo (g a c : Nat) (s : ByteArray) (v : Value) (w : World) (h : Rd w g s a false v) (ha : a ≤ s.size) (hc2 : c < 256) (hc : ∀ h : a < s.size, s[a].toNat ≠ c) :
    Calls Tryz.prog 117 #[.pointer (some ⟨g, 0, none⟩), .int .u8 (c : Int)] w fun e w' => e = .returned (.bool false) ∧ ∃ k, w' = w.drewN k := by
  have := rdIs_any g a c s false v w h ha hc2
  have e : decide (s.data.toList[a]? = some (UInt8.ofNat c)) = false := by
    apply decide_eq_false
    by_cases hlt : a < s.size
    · rw [getAt s a hlt]
      intro e
      have e2 : s[a] = UInt8.ofNat c := by simpa using e
      apply hc hlt
      rw [e2, UInt8.toNat_ofNat']
      omega
    · rw [List.getElem?_eq_none (by simp; omega)]
      simp
  rw [e] at this
  exact this
set_option maxRecDepth 100000 in
theorem isBad (g a c : Nat) (s : ByteArray) (v : Value) (w : World) (h : Rd w g s a true v) (ha : a ≤ s.size) (hc2 : c < 256) :
    Calls Tryz.prog 117 #[.pointer (some ⟨g, 0, none⟩), .int .u8 (c : Int)] w fun e w' => e = .returned (.bool false) ∧ ∃ k, w' = w.drewN k :=
  rdIs_any g a c s true v w h ha hc2

/-- Where the reader stands in the midst of a part: R is what the part should tell in the end. -/
def Mid (B g N : Nat) (s : ByteArray) (w wr : World) (k : Value) (R : Option (Nat × List Pp.Pc × Nat)) (F : Nat → Nat → List Pp.Pc → Nat → Option (Nat × List Pp.Pc × Nat)) (c f : Nat) : Prop :=
  FB g B w wr ∧ ((∃ (z : Int) (a' : Nat) (v' : Value) (n' : Nat) (cs' : List Value), k = .int .i64 z ∧ a' ≤ s.size ∧ Rd wr g s a' true v' ∧ PR B wr v' n' cs' ∧ n' ≤ N ∧ R = none) ∨
    (∃ (j a' fm : Nat) (v' : Value) (o : List Pp.Pc), k = .int .i64 (j : Int) ∧ a' ≤ s.size ∧ Rd wr g s a' false v' ∧ RP B wr v' o ∧ o.length ≤ 60 ∧ F fm a' o j = R ∧ 4 * (s.size - a') + c ≤ fm ∧ fm ≤ f))

theorem Mid.of {B g N c f : Nat} {s : ByteArray} {w w' : World} {R : Option (Nat × List Pp.Pc × Nat)} {F : Nat → Nat → List Pp.Pc → Nat → Option (Nat × List Pp.Pc × Nat)} {e : Ending} (h : RdPost B g s w N R e w')
    (hd : ∀ a' o k, R = some (a', o, k) → a' ≤ s.size → 4 * (s.size - a') + c ≤ f) :
    ∃ k, e = .returned k ∧ Mid B g N s w w' k (R.bind fun r => F f r.1 r.2.1 r.2.2) F c f := by
  obtain ⟨hf, h⟩ := h
  cases R with
  | none =>
    obtain ⟨z, a', v', n', cs', rfl, h1, h2, h3, h4⟩ := h
    exact ⟨_, rfl, hf, .inl ⟨z, a', v', n', cs', rfl, h1, h2, h3, h4, rfl⟩⟩
  | some r =>
    obtain ⟨a', o, j⟩ := r
    obtain ⟨rfl, h1, h2, v', h3, h4⟩ := h
    exact ⟨_, rfl, hf, .inr ⟨j, a', f, v', o, rfl, h1, h3, h4, h2, rfl, hd a' o j rfl h1, Nat.le_refl _⟩⟩

theorem Mid.put {B g N c f a1 fm : Nat} {s : ByteArray} {w W w5 : World} {R : Option (Nat × List Pp.Pc × Nat)} {F : Nat → Nat → List Pp.Pc → Nat → Option (Nat × List Pp.Pc × Nat)} {e : Ending} {o : List Pp.Pc} {p : Pp.Pc} (hf : FB g B w W)
    (h : RdPost B g s W 61 ((Pp.put o p).map fun (o, k) => (a1, o, k)) e w5) (hR : R = (Pp.put o p).bind fun r => F fm a1 r.1 r.2) (hN : 61 ≤ N) (hd : 4 * (s.size - a1) + c ≤ fm) (hm : fm ≤ f) :
    ∃ k, e = .returned k ∧ Mid B g N s w w5 k R F c f := by
  obtain ⟨hf2, h⟩ := h
  cases hp : Pp.put o p with
  | none =>
    rw [hp] at h hR
    obtain ⟨z, a', v', n', cs', rfl, h1, h2, h3, h4⟩ := h
    exact ⟨_, rfl, hf.trans hf2, .inl ⟨z, a', v', n', cs', rfl, h1, h2, h3, by omega, hR⟩⟩
  | some r =>
    rw [hp] at h hR
    obtain ⟨rfl, h1, h2, v', h3, h4⟩ := h
    exact ⟨_, rfl, hf.trans hf2, .inr ⟨r.2, a1, fm, v', r.1, rfl, h1, h3, h4, h2, hR.symm, hd, hm⟩⟩
/-- How much is left to read, as the world holds it. -/
def leftOf (g : Nat) (s : ByteArray) (w : World) : Nat := match w.cell? ⟨g, 2, none⟩ with
  | some (.bool true) => 0
  | _ => s.size + 1 - placeOf g w
theorem Rd.left {w : World} {g : Nat} {s : ByteArray} {a : Nat} {v : Value} (h : Rd w g s a false v) : leftOf g s w = s.size + 1 - a := by
  obtain ⟨_, _, c2, _⟩ := cells4 h
  unfold leftOf
  rw [c2, h.place]
theorem Rd.left0 {w : World} {g : Nat} {s : ByteArray} {a : Nat} {v : Value} (h : Rd w g s a true v) : leftOf g s w = 0 := by
  obtain ⟨_, _, c2, _⟩ := cells4 h
  unfold leftOf
  rw [c2]
theorem RdPost.left {B g N a1 : Nat} {s : ByteArray} {w w' : World} {R : Option (Nat × List Pp.Pc × Nat)} {e : Ending} (h : RdPost B g s w N R e w') (ha : ∀ a o k, R = some (a, o, k) → a1 ≤ a) : leftOf g s w' ≤ s.size + 1 - a1 := by
  obtain ⟨_, h⟩ := h
  cases R with
  | none => obtain ⟨_, _, _, _, _, _, _, h2, _⟩ := h; rw [h2.left0]; omega
  | some r =>
    obtain ⟨a', o, j⟩ := r
    obtain ⟨_, _, _, v', h3, _⟩ := h
    rw [h3.left]
    have := ha a' o j rfl
    omega
theorem put_at {o : List Pp.Pc} {p : Pp.Pc} {a1 : Nat} : ∀ a x k, ((Pp.put o p).map fun (o, k) => (a1, o, k)) = some (a, x, k) → a1 ≤ a := by
  intro a x k h
  cases hp : Pp.put o p with
  | none => rw [hp] at h; simp at h
  | some r => rw [hp] at h; simp at h; omega

set_option maxHeartbeats 4000000 in
set_option maxRecDepth 100000 in
theorem rdMany (B g : Nat) (s : ByteArray) (f : Nat) (hg : g < B) (hs : s.size ≤ 24) (a : Nat) (ps : List Pp.Pc) (w : World)
    (hT : Calls Tryz.prog 130 #[.pointer (some ⟨g, 0, none⟩)] w (RdPost B g s w (61 + f) (Pp.thing s.data.toList f a ps)))
    (hB : B ≤ w.heap.size) (ha : a < s.size) (hd : 4 * (s.size - a) + 2 ≤ f + 1)
    (hlt : ∀ a' o k, Pp.thing s.data.toList f a ps = some (a', o, k) → a < a') :
    Calls Tryz.prog 124 #[.pointer (some ⟨g, 0, none⟩)] w (RdPost B g s w (61 + (f + 1)) (Pp.many s.data.toList (f + 1) a ps)) := by
  have HT : Hid (Calls Tryz.prog 130 #[.pointer (some ⟨g, 0, none⟩)] w (RdPost B g s w (61 + f) (Pp.thing s.data.toList f a ps))) := hT
  obtain ⟨R, hR⟩ : ∃ R, R = Pp.many s.data.toList (f + 1) a ps := ⟨_, rfl⟩
  rw [← hR]
  have HR : Hid (R = Pp.many s.data.toList (f + 1) a ps) := hR
  have HLT : Hid (∀ a' o k, Pp.thing s.data.toList f a ps = some (a', o, k) → a < a') := hlt
  clear hT hR hlt
  go_enter Tryz.func124, Tryz.ntmps124
  go_wp2_with fail
  refine HT.out.mono ?_
  intro e w1 hpost
  obtain ⟨k1, rfl, hmid⟩ := Mid.of (F := Pp.more s.data.toList) (c := 1) (f := f) hpost (fun a' o k e1 h1 => by have := HLT.out a' o k e1; omega)
  have hmid2 : Mid B g (61 + f) s w w1 k1 R (Pp.more s.data.toList) 1 f := by
    have e1 : R = (Pp.thing s.data.toList f a ps).bind fun r => Pp.more s.data.toList f r.1 r.2.1 r.2.2 := by
      rw [HR.out, Pp.many]
      cases Pp.thing s.data.toList f a ps <;> rfl
    rw [e1]
    exact hmid
  clear hmid hpost HT HR HLT
  go_wp2_with fail
  go_loopw [3] (fun k wr => Hid (Mid B g (61 + f) s w wr k R (Pp.more s.data.toList) 1 f)) (fun _ wr => leftOf g s wr)
  case atStart => exact hmid2
  case round =>
    clear hmid2
    obtain ⟨hfb, hm⟩ := hrel.out
    clear hrel
    have HFB : Hid (FB g B w wr) := hfb
    have hBr : B ≤ wr.heap.size := by have := hfb.1; omega
    clear hfb
    rcases hm with ⟨z, a', v', n', cs', rfl, ha', r', p', hn', hRn⟩ | ⟨j, a', fm, v', o, rfl, ha', r', p', ho, hRe, hfm, hfm2⟩
    · have HRN : Hid (R = none) := hRn
      have CB : Hid (∀ (c : Nat) (W : World), c < 256 → Rd W g s a' true v' → Calls Tryz.prog 117 #[.pointer (some ⟨g, 0, none⟩), .int .u8 (c : Int)] W fun e w' => e = .returned (.bool false) ∧ ∃ k, w' = W.drewN k) := fun c W hc h => isBad g a' c s v' W h ha' hc
      clear hRn
      go_wp2_with fail
      refine (CB.out 42 _ (by decide) r').mono ?_
      rintro e w2 ⟨rfl, k2, rfl⟩
      go_wp2_with fail
      refine (CB.out 43 _ (by decide) (Rd.draw r' _)).mono ?_
      rintro e w3 ⟨rfl, k3, rfl⟩
      go_wp2_with fail
      refine (CB.out 63 _ (by decide) (Rd.draw r' _)).mono ?_
      rintro e w4 ⟨rfl, k4, rfl⟩
      go_wp2
      go_ret
      exact RdPost.bad (FB.draw HFB.out _) (Rd.draw r' _) p' (by omega) ha' HRN.out z
    · by_cases hq : ∃ hlt : a' < s.size, s[a'].toNat = 42 ∨ s[a'].toNat = 43 ∨ s[a'].toNat = 63
      · obtain ⟨hlt, hb⟩ := hq
        obtain ⟨fm, rfl⟩ : ∃ fm', fm = fm' + 1 := ⟨fm - 1, by omega⟩
        have hsg : s[a'] = 42 ∨ s[a'] = 43 ∨ s[a'] = 63 := by
          rcases hb with h | h | h
          · exact .inl (UInt8.toNat_inj.1 h)
          · exact .inr (.inl (UInt8.toNat_inj.1 h))
          · exact .inr (.inr (UInt8.toNat_inj.1 h))
        have h256 : s[a'].toNat < 256 := s[a'].toNat_lt
        have HY : Hid (∀ (c : Nat) (W : World), s[a'].toNat = c → Rd W g s a' false v' → Calls Tryz.prog 117 #[.pointer (some ⟨g, 0, none⟩), .int .u8 (c : Int)] W fun e w' => e = .returned (.bool true) ∧ ∃ k, w' = W.drewN k) := fun c W hc h => isYes g a' c s v' W h hlt hc
        have HNO : Hid (∀ (c : Nat) (W : World), c < 256 → s[a'].toNat ≠ c → Rd W g s a' false v' → Calls Tryz.prog 117 #[.pointer (some ⟨g, 0, none⟩), .int .u8 (c : Int)] W fun e w' => e = .returned (.bool false) ∧ ∃ k, w' = W.drewN k) := fun c W hc hne h => isNo g a' c s v' W h ha' hc (fun _ => hne)
        rcases hb with hb | hb | hb
        · have hx : s[a'].toNat = 42 := hb
          have HPUT : Hid (R = (Pp.put o ⟨7, [], [j]⟩).bind fun r => Pp.more s.data.toList fm (a' + 1) r.1 r.2) := by
            show _ = _
            rw [← hRe, more_go s.data.toList fm a' o j s[a'] (getAt s a' hlt) hsg, show s[a'] = 42 from UInt8.toNat_inj.1 hx]
            show (match Pp.put o ⟨7, [], [j]⟩ with | none => none | some (o, j) => _) = _
            cases Pp.put o ⟨7, [], [j]⟩ <;> rfl
          have d43 : ((s[a'].toNat : Int) == 43) = false := by rw [hx]; rfl
          have d63 : ((s[a'].toNat : Int) == 63) = false := by rw [hx]; rfl
          clear hRe hsg hb
          have hi : (a' : Int) < (s.size : Int) := by omega
          obtain ⟨c0, c1, c2, c3, f0, f1, f2, f3⟩ := cells4 r'
          have HR' : Hid (Rd wr g s a' false v') := r'
          have HP' : Hid (RP B wr v' o) := p'
          have hpl : leftOf g s wr = s.size + 1 - a' := r'.left
          clear r' p'
          go_wp2_with fail
          refine (HY.out 42 _ hx HR'.out).mono ?_
          rintro e w2 ⟨rfl, k42, rfl⟩
          clear HY HNO hx
          go_wp2_with fail
          go_quiet (fail)
          go_wp2_with fail
          go_quiet (fail)
          go_wp2_with fail
          have HR1 := fun k => Rd.at (Rd.draw HR'.out k) ((a' : Int) + 1) (a' + 1) (by omega)
          have HP1 := fun k => RP.setg (RP.draw HP'.out k) hg 1 (.int .i64 ((a' : Int) + 1))
          have HF1 := fun k => FB.setg (FB.draw HFB.out k) 1 (.int .i64 ((a' : Int) + 1))
          refine (rdPut1 B g (a' + 1) 7 j _ _ s v' o _ (HR1 _) (HP1 _) hg (by simpa [World.setCell] using hBr) (by omega) ho rfl (by simp [World.setCell])).mono ?_
          intro e w5 hpost
          have hlf := hpost.left put_at
          obtain ⟨k5, rfl, hmid⟩ := Mid.put (N := 61 + f) (c := 1) (f := f) (F := Pp.more s.data.toList) (HF1 _) hpost HPUT.out (by omega) (by omega) (by omega)
          have HMID : Hid (Mid B g (61 + f) s w w5 k5 R (Pp.more s.data.toList) 1 f) := hmid
          clear hmid hpost HR1 HP1 HF1
          go_wp2_with fail
          go_roundw
          case rel => exact HMID.out
          case measure => omega
        · have hx : s[a'].toNat = 43 := hb
          have HPUT : Hid (R = (Pp.put o ⟨8, [], [j]⟩).bind fun r => Pp.more s.data.toList fm (a' + 1) r.1 r.2) := by
            show _ = _
            rw [← hRe, more_go s.data.toList fm a' o j s[a'] (getAt s a' hlt) hsg, show s[a'] = 43 from UInt8.toNat_inj.1 hx]
            show (match Pp.put o ⟨8, [], [j]⟩ with | none => none | some (o, j) => _) = _
            cases Pp.put o ⟨8, [], [j]⟩ <;> rfl
          have d43 : ((s[a'].toNat : Int) == 43) = true := by rw [hx]; rfl
          have d63 : ((s[a'].toNat : Int) == 63) = false := by rw [hx]; rfl
          clear hRe hsg hb
          have hi : (a' : Int) < (s.size : Int) := by omega
          obtain ⟨c0, c1, c2, c3, f0, f1, f2, f3⟩ := cells4 r'
          have HR' : Hid (Rd wr g s a' false v') := r'
          have HP' : Hid (RP B wr v' o) := p'
          have hpl : leftOf g s wr = s.size + 1 - a' := r'.left
          clear r' p'
          go_wp2_with fail
          refine (HNO.out 42 _ (by decide) (by omega) HR'.out).mono ?_
          rintro e w2 ⟨rfl, k42, rfl⟩
          go_wp2_with fail
          refine (HY.out 43 _ hx (Rd.draw HR'.out _)).mono ?_
          rintro e w2 ⟨rfl, k43, rfl⟩
          clear HY HNO hx
          go_wp2_with fail
          go_quiet (fail)
          go_wp2_with fail
          go_quiet (fail)
          go_wp2_with fail
          have HR1 := fun k => Rd.at (Rd.draw HR'.out k) ((a' : Int) + 1) (a' + 1) (by omega)
          have HP1 := fun k => RP.setg (RP.draw HP'.out k) hg 1 (.int .i64 ((a' : Int) + 1))
          have HF1 := fun k => FB.setg (FB.draw HFB.out k) 1 (.int .i64 ((a' : Int) + 1))
          refine (rdPut1 B g (a' + 1) 8 j _ _ s v' o _ (HR1 _) (HP1 _) hg (by simpa [World.setCell] using hBr) (by omega) ho rfl (by simp [World.setCell])).mono ?_
          intro e w5 hpost
          have hlf := hpost.left put_at
          obtain ⟨k5, rfl, hmid⟩ := Mid.put (N := 61 + f) (c := 1) (f := f) (F := Pp.more s.data.toList) (HF1 _) hpost HPUT.out (by omega) (by omega) (by omega)
          have HMID : Hid (Mid B g (61 + f) s w w5 k5 R (Pp.more s.data.toList) 1 f) := hmid
          clear hmid hpost HR1 HP1 HF1
          go_wp2_with fail
          go_roundw
          case rel => exact HMID.out
          case measure => omega
        · have hx : s[a'].toNat = 63 := hb
          have HPUT : Hid (R = (Pp.put o ⟨9, [], [j]⟩).bind fun r => Pp.more s.data.toList fm (a' + 1) r.1 r.2) := by
            show _ = _
            rw [← hRe, more_go s.data.toList fm a' o j s[a'] (getAt s a' hlt) hsg, show s[a'] = 63 from UInt8.toNat_inj.1 hx]
            show (match Pp.put o ⟨9, [], [j]⟩ with | none => none | some (o, j) => _) = _
            cases Pp.put o ⟨9, [], [j]⟩ <;> rfl
          have d43 : ((s[a'].toNat : Int) == 43) = false := by rw [hx]; rfl
          have d63 : ((s[a'].toNat : Int) == 63) = true := by rw [hx]; rfl
          clear hRe hsg hb
          have hi : (a' : Int) < (s.size : Int) := by omega
          obtain ⟨c0, c1, c2, c3, f0, f1, f2, f3⟩ := cells4 r'
          have HR' : Hid (Rd wr g s a' false v') := r'
          have HP' : Hid (RP B wr v' o) := p'
          have hpl : leftOf g s wr = s.size + 1 - a' := r'.left
          clear r' p'
          go_wp2_with fail
          refine (HNO.out 42 _ (by decide) (by omega) HR'.out).mono ?_
          rintro e w2 ⟨rfl, k42, rfl⟩
          go_wp2_with fail
          refine (HNO.out 43 _ (by decide) (by omega) (Rd.draw HR'.out _)).mono ?_
          rintro e w2 ⟨rfl, k43, rfl⟩
          go_wp2_with fail
          refine (HY.out 63 _ hx (Rd.draw HR'.out _)).mono ?_
          rintro e w2 ⟨rfl, k63, rfl⟩
          clear HY HNO hx
          go_wp2_with fail
          go_quiet (fail)
          go_wp2_with fail
          go_quiet (fail)
          go_wp2_with fail
          have HR1 := fun k => Rd.at (Rd.draw HR'.out k) ((a' : Int) + 1) (a' + 1) (by omega)
          have HP1 := fun k => RP.setg (RP.draw HP'.out k) hg 1 (.int .i64 ((a' : Int) + 1))
          have HF1 := fun k => FB.setg (FB.draw HFB.out k) 1 (.int .i64 ((a' : Int) + 1))
          refine (rdPut1 B g (a' + 1) 9 j _ _ s v' o _ (HR1 _) (HP1 _) hg (by simpa [World.setCell] using hBr) (by omega) ho rfl (by simp [World.setCell])).mono ?_
          intro e w5 hpost
          have hlf := hpost.left put_at
          obtain ⟨k5, rfl, hmid⟩ := Mid.put (N := 61 + f) (c := 1) (f := f) (F := Pp.more s.data.toList) (HF1 _) hpost HPUT.out (by omega) (by omega) (by omega)
          have HMID : Hid (Mid B g (61 + f) s w w5 k5 R (Pp.more s.data.toList) 1 f) := hmid
          clear hmid hpost HR1 HP1 HF1
          go_wp2_with fail
          go_roundw
          case rel => exact HMID.out
          case measure => omega
      · have HRS : Hid (R = some (a', o, j)) := by
          show _ = _
          obtain ⟨fm, rfl⟩ : ∃ fm', fm = fm' + 1 := ⟨fm - 1, by omega⟩
          rw [← hRe]
          refine more_end _ _ _ _ _ ?_
          intro b hb hbb
          have hlt : a' < s.size := by
            have := (List.getElem?_eq_some_iff.1 hb).1
            simpa using this
          rw [getAt s a' hlt] at hb
          obtain rfl : s[a'] = b := by simpa using hb
          exact hq ⟨hlt, by rcases hbb with e | e | e <;> rw [e] <;> decide⟩
        have HNO : Hid (∀ (c : Nat) (W : World), c = 42 ∨ c = 43 ∨ c = 63 → Rd W g s a' false v' → Calls Tryz.prog 117 #[.pointer (some ⟨g, 0, none⟩), .int .u8 (c : Int)] W fun e w' => e = .returned (.bool false) ∧ ∃ k, w' = W.drewN k) :=
          fun c W hc h => isNo g a' c s v' W h ha' (by omega) (fun hlt e => hq ⟨hlt, by omega⟩)
        have HP' : Hid (RP B wr v' o) := p'
        clear hRe hq p'
        go_wp2_with fail
        refine (HNO.out 42 _ (by decide) r').mono ?_
        rintro e w2 ⟨rfl, k2, rfl⟩
        go_wp2_with fail
        refine (HNO.out 43 _ (by decide) (Rd.draw r' _)).mono ?_
        rintro e w3 ⟨rfl, k3, rfl⟩
        go_wp2_with fail
        refine (HNO.out 63 _ (by decide) (Rd.draw r' _)).mono ?_
        rintro e w4 ⟨rfl, k4, rfl⟩
        go_wp2
        go_ret
        rw [HRS.out]
        exact ⟨FB.draw HFB.out _, rfl, ha', ho, v', Rd.draw r' _, RP.draw HP'.out _⟩
end PartRdH
end Go.Proofs.YtehagonaacbmiaaGreat
