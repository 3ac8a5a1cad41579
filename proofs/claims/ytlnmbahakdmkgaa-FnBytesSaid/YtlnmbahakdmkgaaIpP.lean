/- What is found: the program's FindIn. -/
import Derived.Test.YtlnmbahakdmkgaaZbc
namespace Go.Proofs.Ytlnmbahakdmkgaa
open Go.RowKit Go.Maps

theorem OS.alloc {w : World} {B : Nat} {ob : Option Nat} {S : Nat → Prop} (h : OS w B ob S) (o : Obj) : OS (w.alloc o) B ob S := by
  rcases h with h | ⟨b, e, h1, h2⟩
  · exact .inl h
  · exact .inr ⟨b, e, h1, h2.keep (((Below.refl w.heap.size w).alloc (Nat.le_refl _) _).block b h2.lt)⟩
theorem OS.keep {w w' : World} {B : Nat} {ob : Option Nat} {S : Nat → Prop} (h : OS w B ob S) (hb : Below w.heap.size w w') : OS w' B ob S := by
  rcases h with h | ⟨b, e, h1, h2⟩
  · exact .inl h
  · exact .inr ⟨b, e, h1, h2.keep (hb.block b h2.lt)⟩

/-- The whole of a pattern, linked, with what is known of it up to now. -/
def Whole (s : ByteArray) (ps : List Pi) (B n : Nat) (p : Value) (W : World) : Prop := ∃ c : Im, p = .pointer (some ⟨c.P (n - 1), 0, none⟩) ∧ c.s = s ∧ c.ps = ps ∧ c.K = n - 1 + 1 ∧ B ≤ c.M0 ∧ c.M0 ≤ W.heap.size ∧ ILie c ∧ IMemo c (fun _ => False) W
theorem Whole.keep {s : ByteArray} {ps : List Pi} {B n : Nat} {p : Value} {W W' : World} (h : Whole s ps B n p W) (hb : Below W.heap.size W W') : Whole s ps B n p W' := by
  obtain ⟨c, e0, e1, e2, e3, e4, e5, L, hm⟩ := h
  exact ⟨c, e0, e1, e2, e3, e4, by have := hb.size; omega, L, hm.up L (fun _ h => h.elim) hb⟩
theorem Whole.low {s : ByteArray} {ps : List Pi} {B C n : Nat} {p : Value} {W : World} (h : Whole s ps B n p W) (hc : C ≤ B) : Whole s ps C n p W := by
  obtain ⟨c, e0, e1, e2, e3, e4, e5, L, hm⟩ := h
  exact ⟨c, e0, e1, e2, e3, by omega, e5, L, hm⟩
theorem Whole.ends {s : ByteArray} {ps : List Pi} {B n : Nat} {p : Value} {W : World} (h : Whole s ps B n p W) (t : Nat) (ht : t < s.size + 1) :
    Calls Try.prog 26 #[p, .string s, .int .i64 (t : Int)] W (fun e w' => ∃ ob, e = .returned (.map ob) ∧ OS w' 0 ob (En.Ends ps s (n - 1) t) ∧ Below B W w' ∧ Whole s ps B n p w') := by
  obtain ⟨c, rfl, rfl, rfl, e3, e4, e5, L, hm⟩ := h
  refine (linked_ends2 L hm e5 (n - 1) t (by omega) ht).mono ?_
  rintro e w' ⟨ob, rfl, o1, o2, o3⟩
  exact ⟨ob, rfl, o1, o2.mono e4, c, rfl, rfl, rfl, e3, e4, by have := o2.size; omega, L, o3⟩

set_option maxHeartbeats 16000000 in
set_option maxRecDepth 100000 in
theorem implFind (v : Value) (ps : List Pi) (s : ByteArray) (w : World) (h : PcsAt w v ps) (hl : ps.length ≤ 1048576) (hsm : Small ps ps.length) (hs : s.size ≤ 1048576) :
    Calls Try.prog 9 #[.agg #[v], .string s] w (fun e w' => ∃ (a b : Int) (r : Bool), e = .returned (.tuple #[.int .i64 a, .int .i64 b, .bool r]) ∧ En.FindIs ps s a b r ∧ Below w.heap.size w w') := by
  have CP : Hid (∀ w' : World, Below w.heap.size w w' → Calls Try.prog 24 #[.agg #[v]] w' fun e w'' => e = .returned (.bool (Pk.pat ps)) ∧ Below w'.heap.size w' w'') := fun w' hb => implOk_any v ps w' (h.keep hb) hl hsm
  have HPV : Hid (PcsAt w v ps) := h
  obtain ⟨pt, hpt⟩ : ∃ pt, pt = Pk.pat ps := ⟨_, rfl⟩
  rw [← hpt] at CP
  have HPT : Hid (pt = Pk.pat ps) := hpt
  obtain ⟨va, vc, rfl, -⟩ := h
  obtain ⟨n, hn⟩ : ∃ n, n = ps.length := ⟨_, rfl⟩
  rw [← hn] at CP hl HPV
  have HN : Hid (n = ps.length) := hn
  clear hpt hsm
  rw [← hn]
  clear hn
  have HB1 : Hid (∀ A : Obj, Below w.heap.size w (w.alloc A)) := fun A => (Below.refl _ _).alloc (Nat.le_refl _) _
  go_enter Try.func9, Try.ntmps9
  go_wp2_with fail
  refine (CP.out _ (HB1.out _)).mono ?_
  rintro e w1 ⟨rfl, b1⟩
  have HW1 : Hid (Below w.heap.size w w1) := (HB1.out _).trans (b1.mono (by simp))
  have cp : w1.cell? ⟨w.heap.size, 0, none⟩ = some (.slice va n vc) := by
    rw [b1.cell (p := ⟨w.heap.size, 0, none⟩) (by simp), blk_cell (heap_alloc_new w _)]
    rfl
  have hwl : w.heap.size + 1 ≤ w1.heap.size := by have := b1.size; simpa using this
  clear b1 CP
  cases pt with
  | false =>
    go_wp2_with fail
    go_ret3
    exact ⟨0, 0, false, rfl, .inr ⟨rfl, rfl, rfl, .inl HPT.out.symm⟩, HW1.out⟩
  | true =>
    obtain ⟨n0, n60, -⟩ := pat_pieces HPT.out.symm
    rw [← HN.out] at n0 n60
    have HCL : Hid (∀ W : World, Below w.heap.size w W → Calls Try.prog 25 #[.agg #[.slice va n vc], .int .i64 ((n : Int) - 1)] W (fun e w' => ∃ z : Nat, e = .returned (.pointer (some ⟨z, 0, none⟩)) ∧ Whole s ps W.heap.size n (.pointer (some ⟨z, 0, none⟩)) w' ∧ Below W.heap.size W w')) := by
      intro W hb
      have := linked_any _ s ps (n - 1) W (HPV.out.keep hb) (by have := HN.out; omega) (pat_pieces HPT.out.symm).2.1 (pat_pieces HPT.out.symm).2.2 hs
      rw [show (((n - 1 : Nat)) : Int) = (n : Int) - 1 by omega] at this
      refine this.mono ?_
      rintro e w' ⟨c, rfl, e1, e2, e3, e4, e5, L, hm, hb2⟩
      exact ⟨_, rfl, ⟨c, rfl, e1, e2, e3, e4, e5, L, hm⟩, hb2⟩
    go_wp2_with fail
    refine (HCL.out _ HW1.out).mono ?_
    rintro e w1b ⟨z0, rfl, hp0, hb0⟩
    have HP0 : Hid (Whole s ps (w.heap.size + 1) n (.pointer (some ⟨z0, 0, none⟩)) w1b) := hp0.low hwl
    have HB0 : Hid (Below (w.heap.size + 1) w1 w1b) := hb0.mono hwl
    clear hp0 hb0
    go_wp2_with fail
    go_loopw [7, 8] (fun q j wr => ∃ t z : Nat, j = .int .i64 (t : Int) ∧ q = .pointer (some ⟨z, 0, none⟩) ∧ t ≤ s.size + 1 ∧ Hid (Whole s ps (w.heap.size + 1) n (.pointer (some ⟨z, 0, none⟩)) wr) ∧ Hid (Below (w.heap.size + 1) w1 wr) ∧ Hid (∀ y, y < t → ∀ j, ¬ En.Ends ps s (ps.length - 1) y j)) (fun _ j _ => s.size + 1 - (RowKit.intOf j).toNat)
    case atStart => exact ⟨0, z0, rfl, rfl, by omega, HP0, HB0, fun y hy => absurd hy (by omega)⟩
    case round =>
      obtain ⟨t, z1, rfl, rfl, ht, HQ, HB, HNE⟩ := hrel
      clear HP0 HB0
      by_cases hlt : t < s.size + 1
      · have t1 : (t : Int) ≤ (s.size : Int) := by omega
        have HC : Hid (Calls Try.prog 26 #[.pointer (some ⟨z1, 0, none⟩), .string s, .int .i64 (t : Int)] wr (fun e w' => ∃ ob, e = .returned (.map ob) ∧ OS w' 0 ob (En.Ends ps s (ps.length - 1) t) ∧ Below (w.heap.size + 1) wr w' ∧ Whole s ps (w.heap.size + 1) n (.pointer (some ⟨z1, 0, none⟩)) w')) := by
          rw [← HN.out]
          exact HQ.out.ends t hlt
        go_wp2_with fail
        refine HC.out.mono ?_
        rintro e w3 ⟨ob, rfl, o1, o2, o3⟩
        have HB3 : Hid (Below (w.heap.size + 1) w1 w3) := HB.out.trans o2
        have HO : Hid (OS w3 0 ob (En.Ends ps s (ps.length - 1) t)) := o1
        have HQ3 : Hid (Whole s ps (w.heap.size + 1) n (.pointer (some ⟨z1, 0, none⟩)) w3) := o3
        have HWR : Hid (Below w.heap.size w w3) := HW1.out.trans (HB3.out.mono (by omega))
        have HNX : Hid ((∀ j, ¬ En.Ends ps s (ps.length - 1) t j) → ∀ y, y < t + 1 → ∀ j, ¬ En.Ends ps s (ps.length - 1) y j) := by
          intro hno y hy j hj
          by_cases hyt : y = t
          · subst hyt; exact hno j hj
          · exact HNE.out y (by omega) j hj
        clear o2 o3 HC HB HQ
        have cpr : w3.cell? ⟨w.heap.size, 0, none⟩ = some (.slice va n vc) := (HB3.out.cell (p := ⟨w.heap.size, 0, none⟩) (by show w.heap.size < w.heap.size + 1; omega)).trans cp
        have hn0 : 0 ≤ (n : Int) - 1 := by omega
        have hws := HB3.out.size
        have hwr : w.heap.size + 1 ≤ w3.heap.size := by omega
        clear hws
        obtain ⟨wo, hwo⟩ : ∃ wo : World, wo = w3 := ⟨_, rfl⟩
        rcases o1 with ⟨rfl, hno⟩ | ⟨b, rfl, -, D, hD1, hD2⟩
        · have HNE2 := HNX.out hno
          have HNE2 : Hid (∀ y, y < t + 1 → ∀ j, ¬ En.Ends ps s (ps.length - 1) y j) := HNE2
          clear hno
          have hln : ∀ ty, (Builtin.len_ #[57] ty #[.map none]).run Try.prog w3 = .ok (.int .i64 0) w3 := fun ty => Maps.len_nil under_eset ty
          clear hwo
          by_cases h40 : s.size ≤ 40
          · have g1 : decide ((40 : Int) < (s.size : Int)) = false := decide_eq_false (by omega)
            have g2 : decide (40 < s.size) = false := decide_eq_false (by omega)
            go_wp2_with fail
            go_roundw
            case rel => exact ⟨t + 1, z1, by go_num, rfl, by omega, HQ3, HB3, HNE2⟩
            case measure => simp [RowKit.intOf]; omega
          · have g1 : decide ((40 : Int) < (s.size : Int)) = true := decide_eq_true (by omega)
            have g2 : decide (40 < s.size) = true := decide_eq_true (by omega)
            go_wp2_with fail
            refine (HCL.out _ HWR.out).mono ?_
            rintro e w4 ⟨z4, rfl, hq4, hb4⟩
            have HQ4 : Hid (Whole s ps (w.heap.size + 1) n (.pointer (some ⟨z4, 0, none⟩)) w4) := hq4.low hwr
            have HB4 : Hid (Below (w.heap.size + 1) w1 w4) := HB3.out.trans (hb4.mono hwr)
            clear hq4 hb4
            go_wp2_with fail
            go_roundw
            case rel => exact ⟨t + 1, z4, by go_num, rfl, by omega, HQ4, HB4, HNE2⟩
            case measure => simp [RowKit.intOf]; omega
        · have hkeys := ES.keys hD1 hD2 (s.size + 1) (fun j hj => by have := hj.le; omega)
          have hlen : Maps.size D = (upTo (s.size + 1) (En.Ends ps s (ps.length - 1) t)).length := by
            have := hkeys.length_eq
            rw [keys_len hD1.isMap, List.length_map] at this
            exact this.symm
          have hle : (upTo (s.size + 1) (En.Ends ps s (ps.length - 1) t)).length ≤ s.size + 1 := by
            unfold upTo
            refine Nat.le_trans (List.length_filter_le _ _) (by simp)
          obtain ⟨z, hz⟩ : ∃ z, z = Maps.size D := ⟨_, rfl⟩
          rw [← hz] at hlen
          rcases List.eq_nil_or_concat (upTo (s.size + 1) (En.Ends ps s (ps.length - 1) t)) with hl0 | ⟨us, x, hl0⟩
          · have HNE2 : Hid (∀ y, y < t + 1 → ∀ j, ¬ En.Ends ps s (ps.length - 1) y j) := HNX.out fun j hj => by
              have := (upTo_mem (N := s.size + 1) (fun j hj => by have := hj.le; omega) j).2 hj
              rw [hl0] at this
              cases this
            have hz0 : Maps.size D = 0 := by rw [← hz, hlen, hl0]; rfl
            clear hkeys hlen hle hl0 hD2 hz hwo
            by_cases h40 : s.size ≤ 40
            · have g1 : decide ((40 : Int) < (s.size : Int)) = false := decide_eq_false (by omega)
              have g2 : decide (40 < s.size) = false := decide_eq_false (by omega)
              go_wp2_with (first | (at_len; refine wpList_len_own _ rfl _ 57 rfl 3 64 under_eset _ b _ D rfl hD1 ?_; rw [hz0]) | fail)
              go_roundw
              case rel => exact ⟨t + 1, z1, by go_num, rfl, by omega, HQ3, HB3, HNE2⟩
              case measure => simp [RowKit.intOf]; omega
            · have g1 : decide ((40 : Int) < (s.size : Int)) = true := decide_eq_true (by omega)
              have g2 : decide (40 < s.size) = true := decide_eq_true (by omega)
              go_wp2_with (first | (at_len; refine wpList_len_own _ rfl _ 57 rfl 3 64 under_eset _ b _ D rfl hD1 ?_; rw [hz0]) | fail)
              refine (HCL.out _ HWR.out).mono ?_
              rintro e w4 ⟨z4, rfl, hq4, hb4⟩
              have HQ4 : Hid (Whole s ps (w.heap.size + 1) n (.pointer (some ⟨z4, 0, none⟩)) w4) := hq4.low hwr
              have HB4 : Hid (Below (w.heap.size + 1) w1 w4) := HB3.out.trans (hb4.mono hwr)
              clear hq4 hb4
              go_wp2_with fail
              go_roundw
              case rel => exact ⟨t + 1, z4, by go_num, rfl, by omega, HQ4, HB4, HNE2⟩
              case measure => simp [RowKit.intOf]; omega
          · rw [List.concat_eq_append] at hl0
            have hx : x ∈ upTo (s.size + 1) (En.Ends ps s (ps.length - 1) t) := by rw [hl0]; simp
            have bnd : ∀ j, En.Ends ps s (ps.length - 1) t j → j < s.size + 1 := fun j hj => by have := hj.le; omega
            have HFI : Hid (En.FindIs ps s (t : Int) (x : Int) true) := .inl ⟨rfl, HPT.out.symm, t, x, rfl, rfl, by omega, (upTo_mem bnd x).1 hx, fun j hj => sorted_last (upTo_sorted _ _) us x hl0 j ((upTo_mem bnd j).2 hj), HNE.out⟩
            have hz0 : 0 < z := by rw [hlen, hl0]; simp
            have dz : decide ((0 : Int) < (z : Int)) = true := decide_eq_true (by omega)
            have dz' : decide (0 < z) = true := decide_eq_true hz0
            clear hkeys hD2
            go_wp2_with (first | (at_len; refine wpList_len_own _ rfl _ 57 rfl 3 64 under_eset _ b _ D rfl hD1 ?_; rw [← hz]) | fail)
            refine (keys_run (some b) w3).mono ?_
            rintro e w4 ⟨rfl, rfl⟩
            have HS : Hid (Calls Try.prog 28 #[.func (.func 50) #[] #[.pointer (some ⟨w3.heap.size, 0, none⟩)]] (w3.alloc (.cells #[.map (some b)] 57)) fun e w' => ∃ v ns, e = .returned v ∧ ns.Perm (upTo (s.size + 1) (En.Ends ps s (ps.length - 1) t)) ∧ Ws 0 w' v ns ∧ Below (w.heap.size + 1) w1 w') := by
              have hsz : (w3.alloc (.cells #[.map (some b)] 57)).heap.size = w3.heap.size + 1 := by simp
              have hw3 := HB3.out.size
              refine (collect_os (w := w3.alloc (.cells #[.map (some b)] 57)) (B := 0) (Bm := w3.heap.size) (N := s.size + 1) (ob := some b) (S := En.Ends ps s (ps.length - 1) t) (HO.out.alloc _) (by omega) (by rw [blk_cell (heap_alloc_new w3 _)]; rfl) bnd (by omega)).mono ?_
              rintro e w' ⟨v, ns, rfl, h0, h1, h2⟩
              rw [hsz] at h1 h2
              exact ⟨v, ns, rfl, h0, h1.low (by omega), (HB3.out.alloc (by omega) _).trans (h2.mono (by omega))⟩
            have HLST : Hid (upTo (s.size + 1) (En.Ends ps s (ps.length - 1) t) = us ++ [x]) := hl0
            clear hwo HO HB3 hlen hle hx bnd hz hl0 hD1 hz0 dz dz'
            go_wp2_with fail
            refine HS.out.mono ?_
            rintro e w5 ⟨y, ns, rfl, y0, y1, y2⟩
            have hnl : ns.length = us.length + 1 := by rw [y0.length_eq, HLST.out]; simp
            obtain ⟨g, cap, rfl, -, -, hc⟩ := y1.form (by omega)
            have hle2 : ns.length ≤ s.size + 1 := by
              rw [y0.length_eq]
              unfold upTo
              refine Nat.le_trans (List.length_filter_le _ _) (by simp)
            have HMX : Hid (Calls Try.prog 27 #[.slice (some ⟨g, 0, none⟩) ns.length cap] w5 fun e w' => e = .returned (.int .i64 (x : Int)) ∧ w' = w5) := max_run g ns.length cap ns w5 rfl (by omega) (by omega) hc x (y0.mem_iff.2 (by rw [HLST.out]; simp)) (fun j hj => sorted_last (upTo_sorted _ _) us x HLST.out j (y0.mem_iff.1 hj))
            have HW5 : Hid (Below w.heap.size w w5) := HW1.out.trans (y2.mono (by omega))
            obtain ⟨m, hm⟩ : ∃ m, m = ns.length := ⟨_, rfl⟩
            rw [← hm] at HMX ⊢
            clear hnl hc hle2 y0 y1 y2 HS hm
            go_wp2_with fail
            refine HMX.out.mono ?_
            rintro e w6 ⟨rfl, rfl⟩
            clear HMX
            go_wp2_with fail
            go_ret3
            exact ⟨_, _, _, rfl, HFI.out, HW5.out⟩
      · obtain rfl : t = s.size + 1 := by omega
        have HW6 : Hid (Below w.heap.size w wr) := HW1.out.trans (HB.out.mono (by omega))
        go_wp2_with fail
        go_ret3
        exact ⟨_, _, _, rfl, .inr ⟨rfl, rfl, rfl, .inr fun y hy => HNE.out y (by omega)⟩, HW6.out⟩
#print axioms implFind
end Go.Proofs.Ytlnmbahakdmkgaa
