/- When a program is right: a node's text. When a program is right: a node's kids. -/
import Derived.Test.YtifbgdinjdgdfapGreatDoorZ36
import Derived.Test.YtifbgdinjdgdfapGreatDoorZ05
import Derived.Test.YtifbgdinjdgdfapGreatDoorZ42
namespace Go.Proofs.YtifbgdinjdgdfapGreatDoor
section PartPkC
open Go.RowKit

theorem implReadOk (t : ByteArray) (w : World) (ht : t.size ≤ 1048576) :
    Calls Tryz.prog 115 #[.string t] w fun e w' => ∃ va vn vc, e = .returned (.tuple #[.agg #[.slice va vn vc], .bool (Pp.read t.data.toList).isSome]) ∧ Below w.heap.size w w' := by
  refine (implRead_any t w ht).mono ?_
  rintro e w' ⟨b, k⟩
  cases h : Pp.read t.data.toList with
  | none =>
    rw [h] at k
    obtain rfl : e = _ := k
    exact ⟨_, _, _, rfl, b⟩
  | some p =>
    rw [h] at k
    obtain ⟨v, rfl, k1, k2, k3⟩ := k
    obtain ⟨va, vn, vc, rfl⟩ := k1.form
    exact ⟨va, vn, vc, rfl, b⟩
theorem plain_any (t : ByteArray) (most : Nat) (m : UInt8) : Pg.plain t.data.toList most m = (!anyOf t ⟨#[m, 10]⟩ && decide (t.size ≤ most)) := by
  unfold Pg.plain anyOf
  have e : t.data.toList.length = t.size := by simp
  rw [e]
  congr 1
  generalize t.data.toList = l
  induction l with
  | nil => rfl
  | cons b r ih =>
    rw [List.all_cons, List.any_cons, ih, Bool.not_or]
    congr 1
    simp
    by_cases h1 : b = m <;> by_cases h2 : b = 10 <;> simp [h1, h2]
theorem has_text (t : ByteArray) : ((Pp.read t.data.toList).isSome && Pg.plain t.data.toList 24 47) = ((Pp.read t.data.toList).isSome && !anyOf t ⟨#[47, 10]⟩) := by
  by_cases h : t.size ≤ 24
  · rw [plain_any, decide_eq_true h, Bool.and_true]
  · have e : Pp.read t.data.toList = none := by
      unfold Pp.read
      rw [if_neg]
      simp
      omega
    rw [e]
    rfl

set_option maxHeartbeats 4000000 in
set_option maxRecDepth 100000 in
theorem nodeTextOk_any (op : Int) (t : ByteArray) (ka : Option Addr) (kl kc : Nat) (w : World) (ht : t.size ≤ 1048576) :
    Calls Tryz.prog 95 #[.agg #[.int .i64 op, .string t, .slice ka kl kc]] w fun e w' => e = .returned (.bool (Pg.text op t.data.toList)) ∧ Below w.heap.size w w' := by
  obtain ⟨V, hV⟩ : ∃ V, V = Pg.text op t.data.toList := ⟨_, rfl⟩
  rw [← hV]
  have HV : Hid (V = Pg.text op t.data.toList) := hV
  clear hV
  have bA : Below w.heap.size w (w.alloc (.cells #[.int .i64 op, .string t, .slice ka kl kc] 87)) := (Below.refl _ _).alloc (Nat.le_refl _) _
  by_cases h1 : op = 1
  · have C : Hid (∀ w, Calls Tryz.prog 120 #[.string t] w fun e w' => e = .returned (.bool V) ∧ w' = w) := by
      intro w
      have := implIsNum_any t w (by omega)
      rwa [HV.out, h1]
    subst h1
    have HA : Hid _ := bA
    clear HV bA
    go_enter Tryz.func95, Tryz.ntmps95
    go_wp2_with (go_at_call 120; refine (C.out _).mono ?_; rintro e w2 ⟨rfl, rfl⟩)
    go_ret
    exact ⟨rfl, HA.out⟩
  by_cases h2 : op = 2
  · have HV2 : Hid (V = Pg.plain t.data.toList 30 34) := by
      show _ = _
      rw [HV.out]
      unfold Pg.text
      rw [if_neg h1, if_pos h2]
    subst h2
    clear HV h1
    obtain ⟨A, hA⟩ : ∃ A, A = anyOf t ⟨#[34, 10]⟩ := ⟨_, rfl⟩
    have HV3 : Hid (V = (!A && decide (t.size ≤ 30))) := by show _ = _; rw [HV2.out, hA]; exact plain_any t 30 34
    have C : Hid (∀ w, Calls Tryz.prog 121 #[.string t, .string ⟨#[34, 10]⟩] w fun e w' => e = .returned (.bool A) ∧ Below w.heap.size w w') := fun w => by rw [hA]; exact containsAny_any t ⟨#[34, 10]⟩ w (by unfold Asc; decide) (by decide) ht (by decide)
    have HA : Hid _ := bA
    clear bA hA HV2
    by_cases h30 : t.size ≤ 30
    · have d30 : decide ((t.size : Int) ≤ 30) = true := decide_eq_true (by omega)
      have HV4 : Hid (V = !A) := HV3.out.trans (by rw [decide_eq_true h30]; exact Bool.and_true _)
      clear HV3 h30
      go_enter Tryz.func95, Tryz.ntmps95
      go_wp2_with fail
      refine (C.out _).mono ?_
      rintro e w2 ⟨rfl, b2⟩
      go_wp2
      go_ret
      exact ⟨by rw [HV4.out]; rfl, HA.out.trans (b2.mono (by simp))⟩
    · have d30 : decide ((t.size : Int) ≤ 30) = false := decide_eq_false (by omega)
      have HV4 : Hid (V = false) := HV3.out.trans (by rw [decide_eq_false h30]; exact Bool.and_false _)
      clear HV3 h30 C
      go_enter Tryz.func95, Tryz.ntmps95
      go_wp2
      go_ret
      exact ⟨by rw [HV4.out]; rfl, HA.out⟩
  by_cases h3 : op = 3 ∨ op = 4 ∨ op = 18 ∨ op = 19 ∨ op = 20 ∨ op = 21 ∨ op = 25
  · have C : Hid (∀ w, Calls Tryz.prog 122 #[.string t] w fun e w' => e = .returned (.bool V) ∧ Below w.heap.size w w') := by
      intro w
      have := isName_any t w
      rw [HV.out]
      unfold Pg.text
      rw [if_neg h1, if_neg h2, if_pos h3]
      exact this
    clear HV h1 h2
    rcases h3 with rfl | rfl | rfl | rfl | rfl | rfl | rfl
    all_goals
      have HA : Hid _ := bA
      clear bA
      go_enter Tryz.func95, Tryz.ntmps95
      go_wp2_with (go_at_call 122; refine (C.out _).mono ?_; rintro e w2 ⟨rfl, b2⟩)
      go_ret
      exact ⟨rfl, HA.out.trans (b2.mono (by simp))⟩
  by_cases h4 : op = 16
  · have HV2 : Hid (V = ((Pp.read t.data.toList).isSome && Pg.plain t.data.toList 24 47)) := by
      show _ = _
      rw [HV.out]
      unfold Pg.text
      rw [if_neg h1, if_neg h2, if_neg h3, if_pos h4]
    subst h4
    clear HV h1 h2 h3
    obtain ⟨ok, hok⟩ : ∃ ok, ok = (Pp.read t.data.toList).isSome := ⟨_, rfl⟩
    obtain ⟨A, hA⟩ : ∃ A, A = anyOf t ⟨#[47, 10]⟩ := ⟨_, rfl⟩
    have HV3 : Hid (V = (ok && !A)) := by show _ = _; rw [HV2.out, hok, hA]; exact has_text t
    clear HV2
    have C : Hid (∀ w, Calls Tryz.prog 115 #[.string t] w fun e w' => ∃ va vn vc, e = .returned (.tuple #[.agg #[.slice va vn vc], .bool ok]) ∧ Below w.heap.size w w') := by
      intro w
      rw [hok]
      exact implReadOk t w ht
    have CP : Hid (∀ w, Calls Tryz.prog 121 #[.string t, .string ⟨#[47, 10]⟩] w fun e w' => e = .returned (.bool A) ∧ Below w.heap.size w w') := fun w => by rw [hA]; exact containsAny_any t ⟨#[47, 10]⟩ w (by unfold Asc; decide) (by decide) ht (by decide)
    clear hok hA
    have hA0 := heap_alloc_new w (.cells #[.int .i64 16, .string t, .slice ka kl kc] 87)
    have HA : Hid _ := bA
    have hl0 : w.heap.size < (w.alloc (.cells #[.int .i64 16, .string t, .slice ka kl kc] 87)).heap.size := by simp
    clear bA
    go_enter Tryz.func95, Tryz.ntmps95
    go_wp2_with fail
    refine (C.out _).mono ?_
    rintro e w2 ⟨va, vn, vc, rfl, b2⟩
    have c1 : w2.cell? ⟨w.heap.size, 1, none⟩ = some (.string t) := by
      rw [b2.cell (p := ⟨w.heap.size, 1, none⟩) hl0, blk_cell hA0]
      rfl
    have HB2 : Hid (Below w.heap.size w w2) := HA.out.trans (b2.mono (by simp))
    have hsz := HB2.out.size
    have c2 : (w2.alloc (.cells #[.slice va vn vc] 143)).cell? ⟨w.heap.size, 1, none⟩ = some (.string t) := (((Below.refl w2.heap.size w2).alloc (Nat.le_refl _) _).cell (p := ⟨w.heap.size, 1, none⟩) (World.block_lt_of_cell? w2 _ c1)).trans c1
    clear b2 hA0 HA C hl0 c1
    cases ok with
    | false =>
      clear CP
      go_wp2
      go_ret
      exact ⟨by rw [HV3.out]; rfl, HB2.out.alloc hsz _⟩
    | true =>
      have HBA : Hid (Below w.heap.size w (w2.alloc (.cells #[.slice va vn vc] 143))) := HB2.out.alloc hsz _
      go_wp2_with fail
      refine (CP.out _).mono ?_
      rintro e w3 ⟨rfl, b3⟩
      have HV4 : Hid (V = !A) := HV3.out
      clear HV3
      go_wp2
      go_ret
      exact ⟨by rw [HV4.out]; rfl, HBA.out.trans (b3.mono HBA.out.size)⟩
  have HV2 : Hid (V = t.data.toList.isEmpty) := by
    show _ = _
    rw [HV.out]
    unfold Pg.text
    rw [if_neg h1, if_neg h2, if_neg h3, if_neg h4]
  have e1 : (op == 1) = false := beq_eq_false_iff_ne.2 h1
  have e2 : (op == 2) = false := beq_eq_false_iff_ne.2 h2
  have e3 : (op == 3) = false := beq_eq_false_iff_ne.2 (by omega)
  have e4 : (op == 4) = false := beq_eq_false_iff_ne.2 (by omega)
  have e18 : (op == 18) = false := beq_eq_false_iff_ne.2 (by omega)
  have e19 : (op == 19) = false := beq_eq_false_iff_ne.2 (by omega)
  have e20 : (op == 20) = false := beq_eq_false_iff_ne.2 (by omega)
  have e21 : (op == 21) = false := beq_eq_false_iff_ne.2 (by omega)
  have e25 : (op == 25) = false := beq_eq_false_iff_ne.2 (by omega)
  have e16 : (op == 16) = false := beq_eq_false_iff_ne.2 h4
  have HA : Hid _ := bA
  have HE : Hid (t.toList.isEmpty = t.data.toList.isEmpty) := by show _ = _; rw [Lib.toList_data]
  clear HV bA h1 h2 h3 h4
  go_enter Tryz.func95, Tryz.ntmps95
  go_wp2
  go_ret
  refine ⟨?_, HA.out⟩
  rw [HV2.out, ← HE.out]
  rfl
end PartPkC
section PartPkD
open Go.RowKit

theorem ahead_at {i : Nat} {ks : List Int} (h : Pg.ahead i ks = true) {k : Nat} (hk : k < ks.length) : 0 ≤ ks.getD k 0 ∧ ks.getD k 0 < (i : Int) := by
  unfold Pg.ahead at h
  rw [List.all_eq_true] at h
  have := h ks[k] (List.getElem_mem hk)
  simpa [hk] using this
theorem kdrop_at (f : Int → Int) {ks : List Int} {k : Nat} (hk : k < ks.length) : (ks.map f).drop k = f (ks.getD k 0) :: (ks.map f).drop (k + 1) := by
  rw [List.drop_eq_getElem_cons (by simpa using hk)]
  simp [hk]

set_option linter.unusedSimpArgs false in
set_option maxRecDepth 100000 in
set_option maxHeartbeats 4000000 in
theorem nodeKidsOk_any (v kv : Value) (ps : List Pi) (op : Int) (t : ByteArray) (ks : List Int) (i : Nat) (w : World) (h : PcsAt w v ps) (hk : KidsAt w kv ks) (hl : ps.length ≤ 1048576) (hl2 : ks.length ≤ 1048576) (hi : i ≤ ps.length) (hin : Pg.ahead i ks = true) :
    Calls Tryz.prog 96 #[v, .agg #[.int .i64 op, .string t, kv]] w fun e w' => e = .returned (.bool (Pg.counted op (ks.map (Pg.opAt ps)))) ∧ Below w.heap.size w w' := by
  obtain ⟨V, hV⟩ : ∃ V, V = Pg.counted op (ks.map (Pg.opAt ps)) := ⟨_, rfl⟩
  have HV : Hid (∀ C, Pg.cnt op (ks.map (Pg.opAt ps)) 0 0 = C → V = match C with | none => false | some (e, s) => Pg.fits op e s) := by rintro C rfl; exact hV
  rw [← hV]
  clear hV
  obtain ⟨va, vc, rfl, f⟩ := h
  obtain ⟨ka, kc, rfl, g⟩ := hk
  have HF : Hid (0 < ps.length → ∃ b o, va = some ⟨b, o, none⟩ ∧ b < w.heap.size ∧ ∀ i, i < ps.length → PieceAt w b (o + i * 3) (ps.getD i Pi.no)) := f
  have HG : Hid (0 < ks.length → ∃ b o, ka = some ⟨b, o, none⟩ ∧ b < w.heap.size ∧ ∀ i, i < ks.length → w.cell? ⟨b, o + i, none⟩ = some (.int .i64 (ks.getD i 0))) := g
  have HIN : Hid (Pg.ahead i ks = true) := hin
  obtain ⟨n, hn⟩ : ∃ n, n = ps.length := ⟨_, rfl⟩
  obtain ⟨m, hm⟩ : ∃ m, m = ks.length := ⟨_, rfl⟩
  rw [← hn] at HF hl hi ⊢
  rw [← hm] at HG hl2 ⊢
  have HM : Hid (m = ks.length) := hm
  clear f g hin hn hm
  have HB : Hid (Below w.heap.size w (w.alloc (.cells #[.int .i64 op, .string t, .slice ka m kc] 87))) := (Below.refl _ _).alloc (Nat.le_refl _) _
  have q0 := blk_cell (heap_alloc_new w (.cells #[.int .i64 op, .string t, .slice ka m kc] 87)) 0
  simp only [List.getElem?_toArray, List.getElem?_cons_zero] at q0
  go_enter Tryz.func96, Tryz.ntmps96
  go_wp2
  generalize w.alloc (.cells #[.int .i64 op, .string t, .slice ka m kc] 87) = W0 at *
  go_loopw [13, 5, 6] (fun j x y wr => ∃ k e s : Nat, j = .int .i64 (k : Int) ∧ x = .int .i64 (e : Int) ∧ y = .int .i64 (s : Int) ∧ k ≤ m ∧ e ≤ k ∧ s ≤ k ∧ wr = W0 ∧ Hid (Pg.cnt op (ks.map (Pg.opAt ps)) 0 0 = Pg.cnt op ((ks.map (Pg.opAt ps)).drop k) e s)) (fun j _ _ _ => m - (intOf j).toNat)
  case atStart => exact ⟨0, 0, 0, rfl, rfl, rfl, by omega, by omega, by omega, rfl, rfl⟩
  case round =>
    obtain ⟨k, e, s, rfl, rfl, rfl, hkm, hek, hsk, rfl, HC⟩ := hrel
    by_cases hlt : k < m
    · obtain ⟨gb, go, rfl, hgb, hgc⟩ := HG.out (by omega)
      have hz := ahead_at HIN.out (k := k) (by rw [← HM.out]; exact hlt)
      obtain ⟨fb, fo, rfl, hfb, hfc⟩ := HF.out (by omega)
      have c1 := (HB.out.cell hgb).trans (hgc k hlt)
      have HC2 : Hid (Pg.cnt op (ks.map (Pg.opAt ps)) 0 0 = Pg.cnt op (Pg.opAt ps (ks.getD k 0) :: (ks.map (Pg.opAt ps)).drop (k + 1)) e s) := by
        show _ = _
        rw [HC.out, kdrop_at _ (by rw [← HM.out]; exact hlt)]
      generalize ks.getD k 0 = z at *
      obtain ⟨y, rfl⟩ : ∃ y : Nat, z = (y : Int) := ⟨z.toNat, by omega⟩
      obtain ⟨-, p0, -, -, -⟩ := hfc y (by omega)
      have c2 := (HB.out.cell hfb).trans p0
      have eo : (ps.getD y Pi.no).op = Pg.opAt ps (y : Int) := rfl
      rw [eo] at c2
      clear hgc hfc p0 eo HC HG HF
      generalize Pg.opAt ps (y : Int) = o at *
      have i1 : (k : Int) < (m : Int) := by omega
      have i2 : (y : Int) < (n : Int) := by omega
      have CE : Hid (∀ W, Calls Tryz.prog 69 #[.int .i64 o] W fun e w' => e = .returned (.bool (Pg.ex o)) ∧ w' = W) := fun W => isEx_any o W
      obtain ⟨x, hx⟩ : ∃ x, x = Pg.ex o := ⟨_, rfl⟩
      rw [← hx] at CE
      have HX : Hid (Pg.ex o = x) := hx.symm
      cases x
      · by_cases hoo : o = 22 ∧ op = 22
        · have d1 : (o == 22) = true := by simpa using hoo.1
          have d2 : (op == 22) = true := by simpa using hoo.2
          have HR : Hid (V = false) := (HV.out none (HC2.out.trans (by rw [Pg.cnt, HX.out]; simp [Pg.noIf, hoo]))).trans rfl
          clear HV HC2 HX hx hoo
          go_wp2_with (go_at_call 69; refine (CE.out _).mono ?_; rintro e w1 ⟨rfl, hw1⟩; rw [hw1])
          go_ret
          exact ⟨by rw [HR.out]; rfl, HB.out⟩
        · have HN : Hid (Pg.cnt op (ks.map (Pg.opAt ps)) 0 0 = Pg.cnt op ((ks.map (Pg.opAt ps)).drop (k + 1)) e (s + 1)) := HC2.out.trans (by
            rw [Pg.cnt, HX.out]
            have : Pg.noIf op o = true := by simp [Pg.noIf]; omega
            simp [this])
          clear HC2 HX hx
          by_cases ho : o = 22
          · have d1 : (o == 22) = true := by simpa using ho
            have d2 : (op == 22) = false := by simp; intro h; exact hoo ⟨ho, h⟩
            clear hoo ho
            go_wp2_with (go_at_call 69; refine (CE.out _).mono ?_; rintro e w1 ⟨rfl, hw1⟩; rw [hw1])
            go_roundw
            case rel => exact ⟨k + 1, e, s + 1, by go_num, rfl, by go_num, by omega, by omega, by omega, by first | rfl | trivial, HN.out⟩
            case measure => simp [intOf]; omega
          · have d1 : (o == 22) = false := by simpa using ho
            clear hoo ho
            go_wp2_with (go_at_call 69; refine (CE.out _).mono ?_; rintro e w1 ⟨rfl, hw1⟩; rw [hw1])
            go_roundw
            case rel => exact ⟨k + 1, e, s + 1, by go_num, rfl, by go_num, by omega, by omega, by omega, by first | rfl | trivial, HN.out⟩
            case measure => simp [intOf]; omega
      · by_cases hs0 : s = 0
        · subst hs0
          have HN : Hid (Pg.cnt op (ks.map (Pg.opAt ps)) 0 0 = Pg.cnt op ((ks.map (Pg.opAt ps)).drop (k + 1)) (e + 1) 0) := HC2.out.trans (by rw [Pg.cnt, HX.out]; simp)
          have ho : o ≠ 22 := fun h => by rw [h] at hx; exact absurd hx (by decide)
          have d1 : (o == 22) = false := by simpa using ho
          clear HC2 HX hx ho
          go_wp2_with (go_at_call 69; refine (CE.out _).mono ?_; rintro e w1 ⟨rfl, hw1⟩; rw [hw1])
          go_roundw
          case rel => exact ⟨k + 1, e + 1, 0, by go_num, by go_num, rfl, by omega, by omega, by omega, by first | rfl | trivial, HN.out⟩
          case measure => simp [intOf]; omega
        · have d1 : ((s : Int) == 0) = false := by simp; omega
          have HR : Hid (V = false) := (HV.out none (HC2.out.trans (by rw [Pg.cnt, HX.out]; simp [hs0]))).trans rfl
          clear HV HC2 HX hx hs0
          go_wp2_with (go_at_call 69; refine (CE.out _).mono ?_; rintro e w1 ⟨rfl, hw1⟩; rw [hw1])
          go_ret
          exact ⟨by rw [HR.out]; rfl, HB.out⟩
    · obtain rfl : k = m := by omega
      have HR : Hid (V = Pg.fits op e s) := HV.out (some (e, s)) (HC.out.trans (by rw [List.drop_of_length_le (by rw [List.length_map, ← HM.out]; omega), Pg.cnt]))
      clear HV HC HG HF HIN HM
      have i1 : ¬ ((k : Int) < (k : Int)) := by omega
      by_cases c0 : op = 4 ∨ op = 5 ∨ op = 8 ∨ op = 16 ∨ op = 18 ∨ op = 19
      · have HR2 : Hid (V = (decide (e = 1) && decide (s = 0))) := HR.out.trans (by simp only [Pg.fits, if_pos c0])
        rcases c0 with rfl | rfl | rfl | rfl | rfl | rfl
        all_goals
          by_cases g0 : e = 1
          · have dg0 : ((e : Int) == 1) = true := by simp only [beq_iff_eq, decide_eq_true_eq]; omega
            have HQ : Hid (V = ((s : Int) == 0)) := HR2.out.trans (Bool.eq_iff_iff.2 (by simp only [Bool.and_eq_true, decide_eq_true_eq, beq_iff_eq]; omega))
            clear HR2 HR
            go_wp2
            go_ret
            exact ⟨by rw [HQ.out]; rfl, HB.out⟩
          · have dg0 : ((e : Int) == 1) = false := Bool.eq_false_iff.2 (by simp only [ne_eq, beq_iff_eq, decide_eq_true_eq]; omega)
            have HQ : Hid (V = false) := HR2.out.trans (Bool.eq_false_iff.2 (by simp only [ne_eq, Bool.and_eq_true, decide_eq_true_eq]; omega))
            clear HR2 HR
            go_wp2
            go_ret
            exact ⟨by rw [HQ.out]; rfl, HB.out⟩
      by_cases c1 : op = 9 ∨ op = 10 ∨ op = 11 ∨ op = 12 ∨ op = 13 ∨ op = 14 ∨ op = 15 ∨ op = 20 ∨ op = 21
      · have HR2 : Hid (V = (decide (e = 2) && decide (s = 0))) := HR.out.trans (by simp only [Pg.fits, if_neg c0, if_pos c1])
        clear c0
        rcases c1 with rfl | rfl | rfl | rfl | rfl | rfl | rfl | rfl | rfl
        all_goals
          by_cases g0 : e = 2
          · have dg0 : ((e : Int) == 2) = true := by simp only [beq_iff_eq, decide_eq_true_eq]; omega
            have HQ : Hid (V = ((s : Int) == 0)) := HR2.out.trans (Bool.eq_iff_iff.2 (by simp only [Bool.and_eq_true, decide_eq_true_eq, beq_iff_eq]; omega))
            clear HR2 HR
            go_wp2
            go_ret
            exact ⟨by rw [HQ.out]; rfl, HB.out⟩
          · have dg0 : ((e : Int) == 2) = false := Bool.eq_false_iff.2 (by simp only [ne_eq, beq_iff_eq, decide_eq_true_eq]; omega)
            have HQ : Hid (V = false) := HR2.out.trans (Bool.eq_false_iff.2 (by simp only [ne_eq, Bool.and_eq_true, decide_eq_true_eq]; omega))
            clear HR2 HR
            go_wp2
            go_ret
            exact ⟨by rw [HQ.out]; rfl, HB.out⟩
      by_cases c2 : op = 17
      · have HR2 : Hid (V = (decide (1 ≤ e) && (decide (e ≤ 4) && decide (s = 0)))) := HR.out.trans (by simp only [Pg.fits, if_neg c0, if_neg c1, if_pos c2])
        clear c0 c1
        subst c2
        by_cases g0 : 1 ≤ e
        · have dg0 : decide ((1 : Int) ≤ (e : Int)) = true := by simp only [beq_iff_eq, decide_eq_true_eq]; omega
          by_cases g1 : e ≤ 4
          · have dg1 : decide ((e : Int) ≤ 4) = true := by simp only [beq_iff_eq, decide_eq_true_eq]; omega
            have HQ : Hid (V = ((s : Int) == 0)) := HR2.out.trans (Bool.eq_iff_iff.2 (by simp only [Bool.and_eq_true, decide_eq_true_eq, beq_iff_eq]; omega))
            clear HR2 HR
            go_wp2
            go_ret
            exact ⟨by rw [HQ.out]; rfl, HB.out⟩
          · have dg1 : decide ((e : Int) ≤ 4) = false := Bool.eq_false_iff.2 (by simp only [ne_eq, beq_iff_eq, decide_eq_true_eq]; omega)
            have HQ : Hid (V = false) := HR2.out.trans (Bool.eq_false_iff.2 (by simp only [ne_eq, Bool.and_eq_true, decide_eq_true_eq]; omega))
            clear HR2 HR
            go_wp2
            go_ret
            exact ⟨by rw [HQ.out]; rfl, HB.out⟩
        · have dg0 : decide ((1 : Int) ≤ (e : Int)) = false := Bool.eq_false_iff.2 (by simp only [ne_eq, beq_iff_eq, decide_eq_true_eq]; omega)
          have HQ : Hid (V = false) := HR2.out.trans (Bool.eq_false_iff.2 (by simp only [ne_eq, Bool.and_eq_true, decide_eq_true_eq]; omega))
          clear HR2 HR
          go_wp2
          go_ret
          exact ⟨by rw [HQ.out]; rfl, HB.out⟩
      by_cases c3 : op = 22
      · have HR2 : Hid (V = (decide (e = 1) && (decide (1 ≤ s) && decide (s ≤ 2)))) := HR.out.trans (by simp only [Pg.fits, if_neg c0, if_neg c1, if_neg c2, if_pos c3])
        clear c0 c1 c2
        subst c3
        by_cases g0 : e = 1
        · have dg0 : ((e : Int) == 1) = true := by simp only [beq_iff_eq, decide_eq_true_eq]; omega
          by_cases g1 : 1 ≤ s
          · have dg1 : decide ((1 : Int) ≤ (s : Int)) = true := by simp only [beq_iff_eq, decide_eq_true_eq]; omega
            have HQ : Hid (V = decide ((s : Int) ≤ 2)) := HR2.out.trans (Bool.eq_iff_iff.2 (by simp only [Bool.and_eq_true, decide_eq_true_eq, beq_iff_eq]; omega))
            clear HR2 HR
            go_wp2
            go_ret
            exact ⟨by rw [HQ.out]; rfl, HB.out⟩
          · have dg1 : decide ((1 : Int) ≤ (s : Int)) = false := Bool.eq_false_iff.2 (by simp only [ne_eq, beq_iff_eq, decide_eq_true_eq]; omega)
            have HQ : Hid (V = false) := HR2.out.trans (Bool.eq_false_iff.2 (by simp only [ne_eq, Bool.and_eq_true, decide_eq_true_eq]; omega))
            clear HR2 HR
            go_wp2
            go_ret
            exact ⟨by rw [HQ.out]; rfl, HB.out⟩
        · have dg0 : ((e : Int) == 1) = false := Bool.eq_false_iff.2 (by simp only [ne_eq, beq_iff_eq, decide_eq_true_eq]; omega)
          have HQ : Hid (V = false) := HR2.out.trans (Bool.eq_false_iff.2 (by simp only [ne_eq, Bool.and_eq_true, decide_eq_true_eq]; omega))
          clear HR2 HR
          go_wp2
          go_ret
          exact ⟨by rw [HQ.out]; rfl, HB.out⟩
      by_cases c4 : op = 24
      · have HR2 : Hid (V = (decide (e = 0) && decide (s ≤ 20))) := HR.out.trans (by simp only [Pg.fits, if_neg c0, if_neg c1, if_neg c2, if_neg c3, if_pos c4])
        clear c0 c1 c2 c3
        subst c4
        by_cases g0 : e = 0
        · have dg0 : ((e : Int) == 0) = true := by simp only [beq_iff_eq, decide_eq_true_eq]; omega
          have HQ : Hid (V = decide ((s : Int) ≤ 20)) := HR2.out.trans (Bool.eq_iff_iff.2 (by simp only [Bool.and_eq_true, decide_eq_true_eq, beq_iff_eq]; omega))
          clear HR2 HR
          go_wp2
          go_ret
          exact ⟨by rw [HQ.out]; rfl, HB.out⟩
        · have dg0 : ((e : Int) == 0) = false := Bool.eq_false_iff.2 (by simp only [ne_eq, beq_iff_eq, decide_eq_true_eq]; omega)
          have HQ : Hid (V = false) := HR2.out.trans (Bool.eq_false_iff.2 (by simp only [ne_eq, Bool.and_eq_true, decide_eq_true_eq]; omega))
          clear HR2 HR
          go_wp2
          go_ret
          exact ⟨by rw [HQ.out]; rfl, HB.out⟩
      have HR2 : Hid (V = (decide (e = 0) && decide (s = 0))) := HR.out.trans (by simp only [Pg.fits, if_neg c0, if_neg c1, if_neg c2, if_neg c3, if_neg c4])
      have e4 : (op == 4) = false := beq_eq_false_iff_ne.2 (by omega)
      have e5 : (op == 5) = false := beq_eq_false_iff_ne.2 (by omega)
      have e8 : (op == 8) = false := beq_eq_false_iff_ne.2 (by omega)
      have e9 : (op == 9) = false := beq_eq_false_iff_ne.2 (by omega)
      have e10 : (op == 10) = false := beq_eq_false_iff_ne.2 (by omega)
      have e11 : (op == 11) = false := beq_eq_false_iff_ne.2 (by omega)
      have e12 : (op == 12) = false := beq_eq_false_iff_ne.2 (by omega)
      have e13 : (op == 13) = false := beq_eq_false_iff_ne.2 (by omega)
      have e14 : (op == 14) = false := beq_eq_false_iff_ne.2 (by omega)
      have e15 : (op == 15) = false := beq_eq_false_iff_ne.2 (by omega)
      have e16 : (op == 16) = false := beq_eq_false_iff_ne.2 (by omega)
      have e17 : (op == 17) = false := beq_eq_false_iff_ne.2 (by omega)
      have e18 : (op == 18) = false := beq_eq_false_iff_ne.2 (by omega)
      have e19 : (op == 19) = false := beq_eq_false_iff_ne.2 (by omega)
      have e20 : (op == 20) = false := beq_eq_false_iff_ne.2 (by omega)
      have e21 : (op == 21) = false := beq_eq_false_iff_ne.2 (by omega)
      have e22 : (op == 22) = false := beq_eq_false_iff_ne.2 (by omega)
      have e24 : (op == 24) = false := beq_eq_false_iff_ne.2 (by omega)
      clear c0 c1 c2 c3 c4
      by_cases g0 : e = 0
      · have dg0 : ((e : Int) == 0) = true := by simp only [beq_iff_eq, decide_eq_true_eq]; omega
        have HQ : Hid (V = ((s : Int) == 0)) := HR2.out.trans (Bool.eq_iff_iff.2 (by simp only [Bool.and_eq_true, decide_eq_true_eq, beq_iff_eq]; omega))
        clear HR2 HR
        go_wp2
        go_ret
        exact ⟨by rw [HQ.out]; rfl, HB.out⟩
      · have dg0 : ((e : Int) == 0) = false := Bool.eq_false_iff.2 (by simp only [ne_eq, beq_iff_eq, decide_eq_true_eq]; omega)
        have HQ : Hid (V = false) := HR2.out.trans (Bool.eq_false_iff.2 (by simp only [ne_eq, Bool.and_eq_true, decide_eq_true_eq]; omega))
        clear HR2 HR
        go_wp2
        go_ret
        exact ⟨by rw [HQ.out]; rfl, HB.out⟩
end PartPkD
end Go.Proofs.YtifbgdinjdgdfapGreatDoor
