/- What ReadPattern of the specification answers, at every text. The specification of ProgramOk: a node's text. -/
import Derived.Test.YtknojhmnadmilaaGreatDoorZaj
import Derived.Laws.ResultCell
import Derived.Laws.Rows
import Derived.Test.YtknojhmnadmilaaGreatDoorZag
namespace Go.Proofs.YtknojhmnadmilaaGreatDoor
section PartRdK
open Go.RowKit

set_option maxRecDepth 100000 in
set_option maxHeartbeats 400000 in
theorem in_text (n : Nat) (w : World) : Calls Tryz.prog 27 #[.int .i64 (n : Int), .int .i64 1, .int .i64 24] w fun e w' => e = .returned (.bool (decide (1 ≤ n ∧ n ≤ 24))) ∧ w' = w := by
  by_cases h0 : 1 ≤ n
  · have d1 : decide ((1 : Int) ≤ (n : Int)) = true := decide_eq_true (by omega)
    have e : decide (1 ≤ n ∧ n ≤ 24) = decide ((n : Int) ≤ 24) := by
      by_cases h : n ≤ 24
      · rw [decide_eq_true (show (n : Int) ≤ 24 by omega), decide_eq_true ⟨h0, h⟩]
      · rw [decide_eq_false (show ¬ (n : Int) ≤ 24 by omega), decide_eq_false (by omega)]
    rw [e]
    go_enter Tryz.func27, Tryz.ntmps27
    go_wp2
    go_ret
    exact ⟨rfl, rfl⟩
  · have d1 : decide ((1 : Int) ≤ (n : Int)) = false := decide_eq_false (by omega)
    rw [decide_eq_false (by omega)]
    go_enter Tryz.func27, Tryz.ntmps27
    go_wp2
    go_ret
    exact ⟨rfl, rfl⟩

/-- What a reader answers: its pieces and true, or nothing and false. -/
def Answer (w' : World) (B : Nat) (R : Option (List Pp.Pc)) (e : Ending) : Prop :=
  match R with
  | none => e = .returned (.tuple #[.agg #[.slice none 0 0], .bool false])
  | some ps => ∃ v, e = .returned (.tuple #[.agg #[v], .bool true]) ∧ RP B w' v ps ∧ 0 < ps.length ∧ ps.length ≤ 60

set_option maxRecDepth 100000 in
theorem res_pat {fn : Func} {p u : Tmp} (h : fn.results = #[.cell p 128, .tmp u]) (tmps : Array Value) (w : World) (g : Nat) (v : Value) (hp : tmps.getD p undef = .pointer (some ⟨g, 0, none⟩)) (hg : w.heap[g]? = some (.cells #[v] 128 (0, 0))) :
    (results fn tmps).run Tryz.prog w = .ok (.tuple #[.agg #[v], tmps.getD u undef]) w := by
  rw [results_cell_tmp h, hp]
  simp only [asAddr, Sem.run_pure, Result.andThen_ok, run_loadVar_row w g 128 128 #[v] (0, 0) _ hg Tryz.underlying128 rfl (by kernel_rfl)]
theorem alloc2_1 (w : World) (A B : Obj) : ((w.alloc A).alloc B).heap[w.heap.size + 1]? = some B := by
  show ((w.heap.push A).push B)[w.heap.size + 1]? = some B
  rw [Array.getElem?_push]
  simp
theorem alloc2_0 (w : World) (A B : Obj) : ((w.alloc A).alloc B).heap[w.heap.size]? = some A := by
  show ((w.heap.push A).push B)[w.heap.size]? = some A
  rw [Array.getElem?_push, if_neg (by simp), Array.getElem?_push]
  simp
theorem RP.form {B : Nat} {w : World} {v : Value} {ps : List Pp.Pc} (h : RP B w v ps) : ∃ ad n c, v = .slice ad n c := by
  obtain ⟨_, cs, hp, _⟩ := h
  rcases hp.2 with ⟨rfl, _⟩ | ⟨g, cap, cur, rfl, _⟩
  · exact ⟨_, _, _, rfl⟩
  · exact ⟨_, _, _, rfl⟩
theorem RP.lower {B B' : Nat} {w : World} {v : Value} {ps : List Pp.Pc} (h : RP B w v ps) (hB : B' ≤ B) : RP B' w v ps := by
  obtain ⟨Q, cs, hp, hc, hm⟩ := h
  refine ⟨Q, cs, ?_, fun i hi => ?_, hm⟩
  · refine ⟨hp.1, ?_⟩
    rcases hp.2 with hn | ⟨g, cap, cur, rfl, h1, rest⟩
    · exact .inl hn
    · exact .inr ⟨g, cap, cur, rfl, by omega, rest⟩
  · obtain ⟨h1, h2, h3, h4⟩ := hc i hi
    refine ⟨h1, h2, h3, fun hne => ?_⟩
    obtain ⟨k1, k2, k3⟩ := h4 hne
    exact ⟨by omega, k2, k3⟩
theorem FB.below {g B C : Nat} {w w' : World} (h : FB g B w w') (hC : C ≤ B) (hg : C ≤ g) : Below C w w' := ⟨h.2.2.1, h.2.2.2.1, h.2.2.2.2, h.1, fun k hk => h.2.1 k (by omega) (by omega)⟩

set_option maxHeartbeats 2000000 in
set_option maxRecDepth 100000 in
theorem specRead_any (s : ByteArray) (w : World) (hs : s.size ≤ 1048576) :
    Calls Tryz.prog 56 #[.string s] w fun e w' => Below w.heap.size w w' ∧ Answer w' w.heap.size (Pp.read s.data.toList) e := by
  have hsl : s.data.toList.length = s.size := by simp
  by_cases hin : 1 ≤ s.size ∧ s.size ≤ 24
  · have CL : Hid (∀ w' : World, Calls Tryz.prog 27 #[.int .i64 (s.size : Int), .int .i64 1, .int .i64 24] w' fun e w'' => e = .returned (.bool true) ∧ w'' = w') := by
      intro w'
      have := in_text s.size w'
      rwa [decide_eq_true hin] at this
    obtain ⟨R, hR⟩ : ∃ R, R = Pp.read s.data.toList := ⟨_, rfl⟩
    have HR : Hid (R = match Pp.alt s.data.toList 200 0 [] with
        | none => none
        | some (e, o, _) => if e < s.size then none else some o) := by
      show _ = _
      rw [hR, Pp.read, hsl, if_pos hin]
      rfl
    rw [← hR]
    clear hR
    have HA := rdAll (w.heap.size + 2) (w.heap.size + 1) s (by omega) hin.2 200 (Nat.le_refl _) 0 (.slice none 0 0) [] 
    have CA : Hid (∀ w1 : World, Rd w1 (w.heap.size + 1) s 0 false (.slice none 0 0) → w.heap.size + 2 ≤ w1.heap.size → Calls Tryz.prog 63 #[.pointer (some ⟨w.heap.size + 1, 0, none⟩)] w1 (RdPost (w.heap.size + 2) (w.heap.size + 1) s w1 261 (Pp.alt s.data.toList 200 0 []))) :=
      fun w1 h1 h2 => HA w1 h1 ⟨fun _ => 0, [], World.ownsRow_nil _ _ _ _, fun i hi => by simp at hi, fun i j _ hj => by simp at hj⟩ h2 (by omega) (by simp) (by omega)
    clear HA
    go_enter Tryz.func56, Tryz.ntmps56
    go_wp2_with fail
    refine (CL.out _).mono ?_
    rintro e w1 ⟨rfl, rfl⟩
    go_wp2_with fail
    refine (CA.out _ (alloc2_1 _ _ _) (by simp)).mono ?_
    intro e w5 hpost
    clear CA CL
    obtain ⟨hfb, hpost⟩ := hpost
    have B5 : Below w.heap.size w w5 := (((Below.refl _ _).alloc (Nat.le_refl _) _).alloc (by simp) _).trans (hfb.below (by omega) (by omega))
    have r0 := hfb.2.1 w.heap.size (by omega) (by omega)
    rw [alloc2_0] at r0
    have hsz5 : w.heap.size + 2 ≤ w5.heap.size := by have := hfb.1; simp at this; omega
    clear hfb
    cases hA : Pp.alt s.data.toList 200 0 [] with
    | none =>
      rw [hA] at hpost
      obtain ⟨k, a', v', n', cs', rfl, ha', r', p', hn'⟩ := hpost
      have HRN : Hid (R = none) := by show _ = _; rw [HR.out, hA]
      clear HR hA
      obtain ⟨c0, c1, c2, c3, f0, f1, f2, f3⟩ := cells4 r'
      have x0 := blk_cell r0 0
      have y0 := blk_free r0 0
      simp at x0
      go_wp2_with fail
      refine bodyPost_ret (res_pat rfl _ _ w.heap.size (.slice none 0 0) rfl (blk_set r0 0 (.slice none 0 0))) rfl ?_
      rw [HRN.out]
      exact ⟨B5.setCell (by exact Nat.le_refl _) _, rfl⟩
    | some r =>
      obtain ⟨e5, o5, k5⟩ := r
      rw [hA] at hpost
      obtain ⟨rfl, ha', ho, v', r', p'⟩ := hpost
      obtain ⟨c0, c1, c2, c3, f0, f1, f2, f3⟩ := cells4 r'
      have x0 := blk_cell r0 0
      have y0 := blk_free r0 0
      simp at x0
      by_cases hend : e5 < s.size
      · have HRN : Hid (R = none) := by show _ = _; rw [HR.out, hA]; simp only [hend, ↓reduceIte]
        have dl : decide ((e5 : Int) < (s.size : Int)) = true := decide_eq_true (by omega)
        clear HR hA
        go_wp2_with fail
        refine bodyPost_ret (res_pat rfl _ _ w.heap.size (.slice none 0 0) rfl (blk_set r0 0 (.slice none 0 0))) rfl ?_
        rw [HRN.out]
        exact ⟨B5.setCell (by exact Nat.le_refl _) _, rfl⟩
      · have HRS : Hid (R = some o5) := by show _ = _; rw [HR.out, hA]; simp only [hend, ↓reduceIte]
        have dl : decide ((e5 : Int) < (s.size : Int)) = false := decide_eq_false (by omega)
        have hpos : 0 < o5.length := Pp.alt_pos _ _ _ _ _ _ _ hA
        obtain ⟨ad, nn, cc, rfl⟩ := p'.form
        have HP' : Hid (RP (w.heap.size + 2) w5 (.slice ad nn cc) o5) := p'
        clear HR hA p'
        go_wp2_with fail
        refine bodyPost_ret (res_pat rfl _ _ w.heap.size (.slice ad nn cc) rfl (blk_set r0 0 (.slice ad nn cc))) rfl ?_
        rw [HRS.out]
        refine ⟨B5.setCell (by exact Nat.le_refl _) _, _, rfl, ?_, hpos, ho⟩
        exact RP.lower (RP.setg HP'.out (by omega) 0 _) (by omega)
  · have CL : Hid (∀ w' : World, Calls Tryz.prog 27 #[.int .i64 (s.size : Int), .int .i64 1, .int .i64 24] w' fun e w'' => e = .returned (.bool false) ∧ w'' = w') := by
      intro w'
      have := in_text s.size w'
      rwa [decide_eq_false hin] at this
    have HR : Hid (Pp.read s.data.toList = none) := by show _ = _; rw [Pp.read, hsl, if_neg hin]
    go_enter Tryz.func56, Tryz.ntmps56
    go_wp2_with fail
    refine (CL.out _).mono ?_
    rintro e w1 ⟨rfl, rfl⟩
    go_wp2_with fail
    refine bodyPost_ret (res_pat rfl _ _ w.heap.size (.slice none 0 0) rfl (heap_alloc_new _ _)) rfl ?_
    rw [HR.out]
    exact ⟨(Below.refl _ _).alloc (Nat.le_refl _) _, rfl⟩
end PartRdK
section PartPgD
open Go.RowKit

/-- The specification's ReadPattern: whether it is read. -/
theorem spReadOk (t : ByteArray) (w : World) (ht : t.size ≤ 1048576) :
    Calls Tryz.prog 56 #[.string t] w fun e w' => ∃ va vn vc, e = .returned (.tuple #[.agg #[.slice va vn vc], .bool (Pp.read t.data.toList).isSome]) ∧ Below w.heap.size w w' := by
  refine (specRead_any t w ht).mono ?_
  rintro e w' ⟨b, k⟩
  cases h : Pp.read t.data.toList with
  | none =>
    rw [h] at k
    obtain rfl : e = _ := k
    exact ⟨_, _, _, rfl, b⟩
  | some p =>
    rw [h] at k
    obtain ⟨v, rfl, k1, k2, k3⟩ := k
    obtain ⟨va, vn, vc, rfl⟩ := k1.form
    exact ⟨va, vn, vc, rfl, b⟩

set_option maxHeartbeats 4000000 in
set_option maxRecDepth 100000 in
theorem spNodeText (op : Int) (t : ByteArray) (ka : Option Addr) (kl kc : Nat) (w : World) (ht : t.size ≤ 1048576) :
    Calls Tryz.prog 44 #[.agg #[.int .i64 op, .string t, .slice ka kl kc]] w fun e w' => e = .returned (.bool (Pg.text op t.data.toList)) ∧ Below w.heap.size w w' := by
  obtain ⟨V, hV⟩ : ∃ V, V = Pg.text op t.data.toList := ⟨_, rfl⟩
  rw [← hV]
  have HV : Hid (V = Pg.text op t.data.toList) := hV
  clear hV
  have bA : Below w.heap.size w (w.alloc (.cells #[.int .i64 op, .string t, .slice ka kl kc] 67)) := (Below.refl _ _).alloc (Nat.le_refl _) _
  by_cases h1 : op = 1
  · have C : Hid (∀ w, Calls Tryz.prog 53 #[.string t] w fun e w' => e = .returned (.bool V) ∧ w' = w) := by
      intro w
      have := specIsNum_any t w (by omega)
      rwa [HV.out, h1]
    subst h1
    have HA : Hid _ := bA
    clear HV bA
    go_enter Tryz.func44, Tryz.ntmps44
    go_wp2_with (go_at_call 53; refine (C.out _).mono ?_; rintro e w2 ⟨rfl, rfl⟩)
    go_ret
    exact ⟨rfl, HA.out⟩
  by_cases h2 : op = 2
  · have C : Hid (∀ w, Calls Tryz.prog 54 #[.string t, .int .i64 30, .int .u8 34] w fun e w' => e = .returned (.bool V) ∧ w' = w) := by
      intro w
      have := spPlain t 30 34 w ht
      rw [HV.out, h2]
      exact this
    subst h2
    have HA : Hid _ := bA
    clear HV bA h1
    go_enter Tryz.func44, Tryz.ntmps44
    go_wp2_with (go_at_call 54; refine (C.out _).mono ?_; rintro e w2 ⟨rfl, rfl⟩)
    go_ret
    exact ⟨rfl, HA.out⟩
  by_cases h3 : op = 3 ∨ op = 4 ∨ op = 18 ∨ op = 19 ∨ op = 20 ∨ op = 21 ∨ op = 25
  · have C : Hid (∀ w, Calls Tryz.prog 55 #[.string t] w fun e w' => e = .returned (.bool V) ∧ Below w.heap.size w w') := by
      intro w
      have := spName t w ht
      rw [HV.out]
      unfold Pg.text
      rw [if_neg h1, if_neg h2, if_pos h3]
      exact this
    clear HV h1 h2
    rcases h3 with rfl | rfl | rfl | rfl | rfl | rfl | rfl
    all_goals
      have HA : Hid _ := bA
      clear bA
      go_enter Tryz.func44, Tryz.ntmps44
      go_wp2_with (go_at_call 55; refine (C.out _).mono ?_; rintro e w2 ⟨rfl, b2⟩)
      go_ret
      exact ⟨rfl, HA.out.trans (b2.mono (by simp))⟩
  by_cases h4 : op = 16
  · have HV2 : Hid (V = ((Pp.read t.data.toList).isSome && Pg.plain t.data.toList 24 47)) := by
      show _ = _
      rw [HV.out]
      unfold Pg.text
      rw [if_neg h1, if_neg h2, if_neg h3, if_pos h4]
    subst h4
    clear HV h1 h2 h3
    obtain ⟨ok, hok⟩ : ∃ ok, ok = (Pp.read t.data.toList).isSome := ⟨_, rfl⟩
    obtain ⟨pl, hpl⟩ : ∃ pl, pl = Pg.plain t.data.toList 24 47 := ⟨_, rfl⟩
    rw [← hok, ← hpl] at HV2
    have C : Hid (∀ w, Calls Tryz.prog 56 #[.string t] w fun e w' => ∃ va vn vc, e = .returned (.tuple #[.agg #[.slice va vn vc], .bool ok]) ∧ Below w.heap.size w w') := by
      intro w
      rw [hok]
      exact spReadOk t w ht
    have CP : Hid (∀ w, Calls Tryz.prog 54 #[.string t, .int .i64 24, .int .u8 47] w fun e w' => e = .returned (.bool pl) ∧ w' = w) := by
      intro w
      rw [hpl]
      exact spPlain t 24 47 w ht
    clear hok hpl
    have hA0 := heap_alloc_new w (.cells #[.int .i64 16, .string t, .slice ka kl kc] 67)
    have HA : Hid _ := bA
    have hl0 : w.heap.size < (w.alloc (.cells #[.int .i64 16, .string t, .slice ka kl kc] 67)).heap.size := by simp
    clear bA
    go_enter Tryz.func44, Tryz.ntmps44
    go_wp2_with fail
    refine (C.out _).mono ?_
    rintro e w2 ⟨va, vn, vc, rfl, b2⟩
    have c1 : w2.cell? ⟨w.heap.size, 1, none⟩ = some (.string t) := by
      rw [b2.cell (p := ⟨w.heap.size, 1, none⟩) hl0, blk_cell hA0]
      rfl
    have HB2 : Hid (Below w.heap.size w w2) := HA.out.trans (b2.mono (by simp))
    have hsz := HB2.out.size
    have c2 : (w2.alloc (.cells #[.slice va vn vc] 128)).cell? ⟨w.heap.size, 1, none⟩ = some (.string t) := (((Below.refl w2.heap.size w2).alloc (Nat.le_refl _) _).cell (p := ⟨w.heap.size, 1, none⟩) (World.block_lt_of_cell? w2 _ c1)).trans c1
    clear b2 hA0 HA C hl0 c1
    cases ok with
    | false =>
      clear CP
      go_wp2
      go_ret
      exact ⟨by rw [HV2.out]; rfl, HB2.out.alloc hsz _⟩
    | true =>
      go_wp2_with (go_at_call 54; refine (CP.out _).mono ?_; rintro e w3 ⟨rfl, rfl⟩)
      go_ret
      exact ⟨by rw [HV2.out]; rfl, HB2.out.alloc hsz _⟩
  have HV2 : Hid (V = t.data.toList.isEmpty) := by
    show _ = _
    rw [HV.out]
    unfold Pg.text
    rw [if_neg h1, if_neg h2, if_neg h3, if_neg h4]
  have e1 : (op == 1) = false := beq_eq_false_iff_ne.2 h1
  have e2 : (op == 2) = false := beq_eq_false_iff_ne.2 h2
  have e3 : (op == 3) = false := beq_eq_false_iff_ne.2 (by omega)
  have e4 : (op == 4) = false := beq_eq_false_iff_ne.2 (by omega)
  have e18 : (op == 18) = false := beq_eq_false_iff_ne.2 (by omega)
  have e19 : (op == 19) = false := beq_eq_false_iff_ne.2 (by omega)
  have e20 : (op == 20) = false := beq_eq_false_iff_ne.2 (by omega)
  have e21 : (op == 21) = false := beq_eq_false_iff_ne.2 (by omega)
  have e25 : (op == 25) = false := beq_eq_false_iff_ne.2 (by omega)
  have e16 : (op == 16) = false := beq_eq_false_iff_ne.2 h4
  have HA : Hid _ := bA
  have HE : Hid (t.toList.isEmpty = t.data.toList.isEmpty) := by show _ = _; rw [Lib.toList_data]
  clear HV bA h1 h2 h3 h4
  go_enter Tryz.func44, Tryz.ntmps44
  go_wp2
  go_ret
  refine ⟨?_, HA.out⟩
  rw [HV2.out, ← HE.out]
  rfl
end PartPgD
end Go.Proofs.YtknojhmnadmilaaGreatDoor
