/- What is found: the program's FindIn. -/
import Derived.Test.YtibmagmdeacenacIpO
namespace Go.Proofs.Ytibmagmdeacenac
open Go.RowKit Go.Maps

theorem OS.alloc {w : World} {B : Nat} {ob : Option Nat} {S : Nat → Prop} (h : OS w B ob S) (o : Obj) : OS (w.alloc o) B ob S := by
  rcases h with h | ⟨b, e, h1, h2⟩
  · exact .inl h
  · exact .inr ⟨b, e, h1, h2.keep (((Below.refl w.heap.size w).alloc (Nat.le_refl _) _).block b h2.lt)⟩
theorem OS.keep {w w' : World} {B : Nat} {ob : Option Nat} {S : Nat → Prop} (h : OS w B ob S) (hb : Below w.heap.size w w') : OS w' B ob S := by
  rcases h with h | ⟨b, e, h1, h2⟩
  · exact .inl h
  · exact .inr ⟨b, e, h1, h2.keep (hb.block b h2.lt)⟩

set_option maxHeartbeats 8000000 in
set_option maxRecDepth 100000 in
theorem implFind (v : Value) (ps : List Pi) (s : ByteArray) (w : World) (h : PcsAt w v ps) (hl : ps.length ≤ 1048576) (hsm : Small ps ps.length) (hs : s.size ≤ 1048576) :
    Calls Try.prog 9 #[.agg #[v], .string s] w (fun e w' => ∃ (a b : Int) (r : Bool), e = .returned (.tuple #[.int .i64 a, .int .i64 b, .bool r]) ∧ En.FindIs ps s a b r ∧ Below w.heap.size w w') := by
  have CP : Hid (∀ w' : World, Below w.heap.size w w' → Calls Try.prog 15 #[.agg #[v]] w' fun e w'' => e = .returned (.bool (Pk.pat ps)) ∧ Below w'.heap.size w' w'') := fun w' hb => implOk_any v ps w' (h.keep hb) hl hsm
  have HPV : Hid (PcsAt w v ps) := h
  obtain ⟨pt, hpt⟩ : ∃ pt, pt = Pk.pat ps := ⟨_, rfl⟩
  rw [← hpt] at CP
  have HPT : Hid (pt = Pk.pat ps) := hpt
  obtain ⟨va, vc, rfl, -⟩ := h
  obtain ⟨n, hn⟩ : ∃ n, n = ps.length := ⟨_, rfl⟩
  rw [← hn] at CP hl HPV
  have HN : Hid (n = ps.length) := hn
  clear hpt hsm
  rw [← hn]
  clear hn
  have HB1 : Hid (∀ A : Obj, Below w.heap.size w (w.alloc A)) := fun A => (Below.refl _ _).alloc (Nat.le_refl _) _
  go_enter Try.func9, Try.ntmps9
  go_wp2_with fail
  refine (CP.out _ (HB1.out _)).mono ?_
  rintro e w1 ⟨rfl, b1⟩
  have HW1 : Hid (Below w.heap.size w w1) := (HB1.out _).trans (b1.mono (by simp))
  have cp : w1.cell? ⟨w.heap.size, 0, none⟩ = some (.slice va n vc) := by
    rw [b1.cell (p := ⟨w.heap.size, 0, none⟩) (by simp), blk_cell (heap_alloc_new w _)]
    rfl
  have hwl : w.heap.size + 1 ≤ w1.heap.size := by have := b1.size; simpa using this
  clear b1 CP
  cases pt with
  | false =>
    go_wp2_with fail
    go_ret3
    exact ⟨0, 0, false, rfl, .inr ⟨rfl, rfl, rfl, .inl HPT.out.symm⟩, HW1.out⟩
  | true =>
    obtain ⟨n0, n60, -⟩ := pat_pieces HPT.out.symm
    rw [← HN.out] at n0 n60
    have HCL : Hid (∀ W : World, Below w.heap.size w W → Calls Try.prog 23 #[.agg #[.slice va n vc], .int .i64 ((n : Int) - 1)] W (fun e w' => ∃ c : Im, e = .returned (.pointer (some ⟨c.P (n - 1), 0, none⟩)) ∧ c.s = s ∧ c.ps = ps ∧ c.K = n - 1 + 1 ∧ W.heap.size ≤ c.M0 ∧ c.M0 ≤ w'.heap.size ∧ ILie c ∧ IMemo c (fun _ => False) w' ∧ Below W.heap.size W w')) := by
      intro W hb
      have := linked_any _ s ps (n - 1) W (HPV.out.keep hb) (by have := HN.out; omega) (pat_pieces HPT.out.symm).2.1 (pat_pieces HPT.out.symm).2.2 hs
      rwa [show (((n - 1 : Nat)) : Int) = (n : Int) - 1 by omega] at this
    go_wp2_with fail
    go_loopw [7] (fun j wr => ∃ t : Nat, j = .int .i64 (t : Int) ∧ t ≤ s.size + 1 ∧ Hid (Below (w.heap.size + 1) w1 wr) ∧ Hid (∀ y, y < t → ∀ j, ¬ En.Ends ps s (ps.length - 1) y j)) (fun j _ => s.size + 1 - (RowKit.intOf j).toNat)
    case atStart => exact ⟨0, rfl, by omega, Below.refl _ _, fun y hy => absurd hy (by omega)⟩
    case round =>
      obtain ⟨t, rfl, ht, HB, HNE⟩ := hrel
      by_cases hlt : t < s.size + 1
      · have t1 : (t : Int) ≤ (s.size : Int) := by omega
        have cpr : wr.cell? ⟨w.heap.size, 0, none⟩ = some (.slice va n vc) := (HB.out.cell (p := ⟨w.heap.size, 0, none⟩) (by show w.heap.size < w.heap.size + 1; omega)).trans cp
        have hn0 : 0 ≤ (n : Int) - 1 := by omega
        have HWR : Hid (Below w.heap.size w wr) := HW1.out.trans (HB.out.mono (by omega))
        go_wp2_with fail
        refine (HCL.out _ HWR.out).mono ?_
        rintro e w2 ⟨c, rfl, e1, e2, e3, e4, e5, L, hm, b2⟩
        have HC : Hid (Calls Try.prog 24 #[.pointer (some ⟨c.P (n - 1), 0, none⟩), .string s, .int .i64 (t : Int)] w2 (fun e w' => ∃ ob, e = .returned (.map ob) ∧ OS w' 0 ob (En.Ends ps s (ps.length - 1) t) ∧ Below c.M0 w2 w')) := by
          have := linked_ends L hm e5 (n - 1) t (by omega) (by rw [e1]; omega)
          rw [e1, e2, HN.out] at this
          rw [HN.out]
          exact this
        have hws := HB.out.size
        have hwr : w.heap.size + 1 ≤ wr.heap.size := by omega
        have HB2 : Hid (Below (w.heap.size + 1) w1 w2) := HB.out.trans (b2.mono hwr)
        have hcm : w.heap.size + 1 ≤ c.M0 := by omega
        clear e1 e2 e3 e4 e5 L hm b2 cpr hws hwr HWR
        go_wp2_with fail
        refine HC.out.mono ?_
        rintro e w3 ⟨ob, rfl, o1, o2⟩
        have HB3 : Hid (Below (w.heap.size + 1) w1 w3) := HB2.out.trans (o2.mono hcm)
        have HO : Hid (OS w3 0 ob (En.Ends ps s (ps.length - 1) t)) := o1
        clear o2 HC HB2
        obtain ⟨wo, hwo⟩ : ∃ wo : World, wo = w3 := ⟨_, rfl⟩
        rcases o1 with ⟨rfl, hno⟩ | ⟨b, rfl, -, D, hD1, hD2⟩
        · have HNE2 : Hid (∀ y, y < t + 1 → ∀ j, ¬ En.Ends ps s (ps.length - 1) y j) := by
            intro y hy j hj
            by_cases hyt : y = t
            · subst hyt; exact hno j hj
            · exact HNE.out y (by omega) j hj
          clear hno
          have hln : ∀ ty, (Builtin.len_ #[51] ty #[.map none]).run Try.prog w3 = .ok (.int .i64 0) w3 := fun ty => Maps.len_nil under_eset ty
          go_wp2_with fail
          go_roundw
          case rel => exact ⟨t + 1, by go_num, by omega, HB3.out, HNE2.out⟩
          case measure => simp [RowKit.intOf]; omega
        · have hkeys := ES.keys hD1 hD2 (s.size + 1) (fun j hj => by have := hj.le; omega)
          have hlen : Maps.size D = (upTo (s.size + 1) (En.Ends ps s (ps.length - 1) t)).length := by
            have := hkeys.length_eq
            rw [keys_len hD1.isMap, List.length_map] at this
            exact this.symm
          have hle : (upTo (s.size + 1) (En.Ends ps s (ps.length - 1) t)).length ≤ s.size + 1 := by
            unfold upTo
            refine Nat.le_trans (List.length_filter_le _ _) (by simp)
          obtain ⟨z, hz⟩ : ∃ z, z = Maps.size D := ⟨_, rfl⟩
          rw [← hz] at hlen
          rcases List.eq_nil_or_concat (upTo (s.size + 1) (En.Ends ps s (ps.length - 1) t)) with hl0 | ⟨us, x, hl0⟩
          · have HNE2 : Hid (∀ y, y < t + 1 → ∀ j, ¬ En.Ends ps s (ps.length - 1) y j) := by
              intro y hy j hj
              by_cases hyt : y = t
              · subst hyt
                have := (upTo_mem (N := s.size + 1) (fun j hj => by have := hj.le; omega) j).2 hj
                rw [hl0] at this
                cases this
              · exact HNE.out y (by omega) j hj
            have hz0 : Maps.size D = 0 := by rw [← hz, hlen, hl0]; rfl
            clear hkeys hlen hle hl0 hD2 hz
            go_wp2_with (first | (at_len; refine wpList_len_own _ rfl _ 51 rfl 3 60 under_eset _ b _ D rfl hD1 ?_; rw [hz0]) | fail)
            go_roundw
            case rel => exact ⟨t + 1, by go_num, by omega, HB3.out, HNE2.out⟩
            case measure => simp [RowKit.intOf]; omega
          · rw [List.concat_eq_append] at hl0
            have hx : x ∈ upTo (s.size + 1) (En.Ends ps s (ps.length - 1) t) := by rw [hl0]; simp
            have bnd : ∀ j, En.Ends ps s (ps.length - 1) t j → j < s.size + 1 := fun j hj => by have := hj.le; omega
            have HFI : Hid (En.FindIs ps s (t : Int) (x : Int) true) := .inl ⟨rfl, HPT.out.symm, t, x, rfl, rfl, by omega, (upTo_mem bnd x).1 hx, fun j hj => sorted_last (upTo_sorted _ _) us x hl0 j ((upTo_mem bnd j).2 hj), HNE.out⟩
            have hz0 : 0 < z := by rw [hlen, hl0]; simp
            have dz : decide ((0 : Int) < (z : Int)) = true := decide_eq_true (by omega)
            have dz' : decide (0 < z) = true := decide_eq_true hz0
            clear hkeys hD2
            go_wp2_with (first | (at_len; refine wpList_len_own _ rfl _ 51 rfl 3 60 under_eset _ b _ D rfl hD1 ?_; rw [← hz]) | fail)
            refine (keys_run (some b) w3).mono ?_
            rintro e w4 ⟨rfl, rfl⟩
            have HS : Hid (Calls Try.prog 26 #[.func (.func 42) #[] #[.pointer (some ⟨w3.heap.size, 0, none⟩)]] (w3.alloc (.cells #[.map (some b)] 51)) fun e w' => ∃ v ns, e = .returned v ∧ ns.Perm (upTo (s.size + 1) (En.Ends ps s (ps.length - 1) t)) ∧ Ws 0 w' v ns ∧ Below (w.heap.size + 1) w1 w') := by
              have hsz : (w3.alloc (.cells #[.map (some b)] 51)).heap.size = w3.heap.size + 1 := by simp
              have hw3 := HB3.out.size
              refine (collect_os (w := w3.alloc (.cells #[.map (some b)] 51)) (B := 0) (Bm := w3.heap.size) (N := s.size + 1) (ob := some b) (S := En.Ends ps s (ps.length - 1) t) (HO.out.alloc _) (by omega) (by rw [blk_cell (heap_alloc_new w3 _)]; rfl) bnd (by omega)).mono ?_
              rintro e w' ⟨v, ns, rfl, h0, h1, h2⟩
              rw [hsz] at h1 h2
              exact ⟨v, ns, rfl, h0, h1.low (by omega), (HB3.out.alloc (by omega) _).trans (h2.mono (by omega))⟩
            have HLST : Hid (upTo (s.size + 1) (En.Ends ps s (ps.length - 1) t) = us ++ [x]) := hl0
            clear hwo HO HB3 hlen hle hx bnd hz hl0 hD1 hz0 dz dz'
            go_wp2_with fail
            refine HS.out.mono ?_
            rintro e w5 ⟨y, ns, rfl, y0, y1, y2⟩
            have hnl : ns.length = us.length + 1 := by rw [y0.length_eq, HLST.out]; simp
            obtain ⟨g, cap, rfl, -, -, hc⟩ := y1.form (by omega)
            have hle2 : ns.length ≤ s.size + 1 := by
              rw [y0.length_eq]
              unfold upTo
              refine Nat.le_trans (List.length_filter_le _ _) (by simp)
            have HMX : Hid (Calls Try.prog 25 #[.slice (some ⟨g, 0, none⟩) ns.length cap] w5 fun e w' => e = .returned (.int .i64 (x : Int)) ∧ w' = w5) := max_run g ns.length cap ns w5 rfl (by omega) (by omega) hc x (y0.mem_iff.2 (by rw [HLST.out]; simp)) (fun j hj => sorted_last (upTo_sorted _ _) us x HLST.out j (y0.mem_iff.1 hj))
            have HW5 : Hid (Below w.heap.size w w5) := HW1.out.trans (y2.mono (by omega))
            obtain ⟨m, hm⟩ : ∃ m, m = ns.length := ⟨_, rfl⟩
            rw [← hm] at HMX ⊢
            clear hnl hc hle2 y0 y1 y2 HS hm
            go_wp2_with fail
            refine HMX.out.mono ?_
            rintro e w6 ⟨rfl, rfl⟩
            clear HMX
            go_wp2_with fail
            go_ret3
            exact ⟨_, _, _, rfl, HFI.out, HW5.out⟩
      · obtain rfl : t = s.size + 1 := by omega
        have HW6 : Hid (Below w.heap.size w wr) := HW1.out.trans (HB.out.mono (by omega))
        go_wp2_with fail
        go_ret3
        exact ⟨_, _, _, rfl, .inr ⟨rfl, rfl, rfl, .inr fun y hy => HNE.out y (by omega)⟩, HW6.out⟩
#print axioms implFind
end Go.Proofs.Ytibmagmdeacenac
