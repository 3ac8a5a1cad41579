/- A tick of who gives and gathers, in the program. -/
import Derived.Test.YthnmopldpgdenaaMPTcZax
namespace Go.Proofs.Ythnmopldpgdenaa
open Go.RowKit

theorem tmod10 (n : Int) : -10 < n.tmod 10 ∧ n.tmod 10 < 10 ∧ (n.tmod 10 + 10) % 10 = n % 10 := by
  rw [tmod_eq_if]
  split <;> omega
theorem tick10 (n : Int) : (wrap64 (n.tmod 10 + 10)).tmod 10 = n % 10 := by
  obtain ⟨h1, h2, h3⟩ := tmod10 n
  have e : wrap64 (n.tmod 10 + 10) = n.tmod 10 + 10 := by
    unfold wrap64
    omega
  rw [e, Int.tmod_eq_emod_of_nonneg (by omega), h3]
set_option maxHeartbeats 4000000 in
set_option maxRecDepth 100000 in
theorem imTick_any (g : Nat) (now n : Int) (w : World) (h : w.cell? ⟨g, 11, none⟩ = some (.int .i64 now)) (hf : w.frozen? ⟨g, 11, none⟩ = false) :
    Calls Try.prog 21 #[.pointer (some ⟨g, 0, none⟩), .int .i64 n] w fun e w' => e = .returned (.tuple #[]) ∧ w' = w.setCell ⟨g, 11, none⟩ (.int .i64 (wrap64 (now + n % 10))) := by
  go_enter Try.func21, Try.ntmps21
  go_wp2
  rw [tick10]
  go_end0
  exact ⟨rfl, rfl⟩
def Co.tick (c : Co) (n : Int) : Co := { c with now := wrap64 (c.now + n % 10) }
theorem Co.Own.tick {p0 p1 p2 p3 p4 p5 p6 : Nat} {w : World} {tv lv nv bu bx kv fu fx : Value} {c : Co} {e : Nat → Te} (h : Co.Own p0 p1 p2 p3 p4 p5 p6 w tv lv nv bu bx kv fu fx c e) (n : Int) : Co.Own p0 p1 p2 p3 p4 p5 p6 w tv lv nv bu bx kv fu fx (c.tick n) e :=
  ⟨h.t, h.l, h.n, h.b, h.k, h.f, h.s, h.ord⟩

set_option maxHeartbeats 16000000 in
set_option maxRecDepth 100000 in
theorem imTickCoord_any (tv lv nv bu bx kv fu fx : Value) (c : Co) (n : Int) (w : World) (h : Co.At w tv lv nv bu bx kv fu fx c) (hs : c.Sm) :
    Calls Try.prog 7 #[.agg (Co.cells tv lv nv bu bx kv fu fx c), .int .i64 n] w fun r w' => ∃ ta tc la lc na nc ua uc xa xc ka kc ga gc ha hc p0 p1 p2 p3 p4 p5 p6 f, r = .returned (.agg #[.slice ta c.ts.length tc, .slice la c.xs.length lc, .int .i64 c.bg, .int .i64 c.li, .int .i64 c.en, .slice na c.ns.length nc, .slice ua c.bv.length uc, .slice xa c.bc.length xc, .string c.bo, .int .i64 c.cnt, .slice ka c.ks.length kc, .int .i64 (wrap64 (c.now + n % 10)), .int .i64 c.tries, .bool c.over, .slice ga c.fv.length gc, .slice ha c.fc.length hc, .string c.fo]) ∧ Below w.heap.size w w' ∧ w.heap.size ≤ p0 ∧ p6 ≤ w'.heap.size ∧ Co.Own p0 p1 p2 p3 p4 p5 p6 w' (.slice ta c.ts.length tc) (.slice la c.xs.length lc) (.slice na c.ns.length nc) (.slice ua c.bv.length uc) (.slice xa c.bc.length xc) (.slice ka c.ks.length kc) (.slice ga c.fv.length gc) (.slice ha c.fc.length hc) (c.tick n) f := by
  have C1 := hidOfT (fun (W : World) (hb : Below w.heap.size w W) => ownCoord_any tv lv nv bu bx kv fu fx c W (h.keep hb) hs)
  obtain ⟨ta, tc, rfl, -⟩ := h.t
  obtain ⟨la, lc, rfl, -⟩ := h.l
  obtain ⟨na, nc, rfl, -⟩ := h.n
  obtain ⟨ua, uc, rfl, -⟩ := h.u
  obtain ⟨xa, xc, rfl, -⟩ := h.x
  obtain ⟨ka, kc, rfl, -⟩ := h.k
  obtain ⟨ga, gc, rfl, -⟩ := h.fu
  obtain ⟨ha, hc, rfl, -⟩ := h.fx
  unfold Co.cells at C1 ⊢
  clear h hs
  have HB : Hid (Below w.heap.size w ((w.alloc (.cells #[.slice ta c.ts.length tc, .slice la c.xs.length lc, .int .i64 c.bg, .int .i64 c.li, .int .i64 c.en, .slice na c.ns.length nc, .slice ua c.bv.length uc, .slice xa c.bc.length xc, .string c.bo, .int .i64 c.cnt, .slice ka c.ks.length kc, .int .i64 c.now, .int .i64 c.tries, .bool c.over, .slice ga c.fv.length gc, .slice ha c.fc.length hc, .string c.fo] 43)).alloc (.cells #[.slice none 0 0, .slice none 0 0, .int .i64 0, .int .i64 0, .int .i64 0, .slice none 0 0, .slice none 0 0, .slice none 0 0, .string ⟨#[]⟩, .int .i64 0, .slice none 0 0, .int .i64 0, .int .i64 0, .bool false, .slice none 0 0, .slice none 0 0, .string ⟨#[]⟩] 43))) := (((Below.refl _ _).alloc (Nat.le_refl _) _).alloc (by simp) _)
  have HA : Hid (((w.alloc (.cells #[.slice ta c.ts.length tc, .slice la c.xs.length lc, .int .i64 c.bg, .int .i64 c.li, .int .i64 c.en, .slice na c.ns.length nc, .slice ua c.bv.length uc, .slice xa c.bc.length xc, .string c.bo, .int .i64 c.cnt, .slice ka c.ks.length kc, .int .i64 c.now, .int .i64 c.tries, .bool c.over, .slice ga c.fv.length gc, .slice ha c.fc.length hc, .string c.fo] 43)).alloc (.cells #[.slice none 0 0, .slice none 0 0, .int .i64 0, .int .i64 0, .int .i64 0, .slice none 0 0, .slice none 0 0, .slice none 0 0, .string ⟨#[]⟩, .int .i64 0, .slice none 0 0, .int .i64 0, .int .i64 0, .bool false, .slice none 0 0, .slice none 0 0, .string ⟨#[]⟩] 43)).heap[w.heap.size]? = some (.cells #[.slice ta c.ts.length tc, .slice la c.xs.length lc, .int .i64 c.bg, .int .i64 c.li, .int .i64 c.en, .slice na c.ns.length nc, .slice ua c.bv.length uc, .slice xa c.bc.length xc, .string c.bo, .int .i64 c.cnt, .slice ka c.ks.length kc, .int .i64 c.now, .int .i64 c.tries, .bool c.over, .slice ga c.fv.length gc, .slice ha c.fc.length hc, .string c.fo] 43 (0, 0))) := s2_0 _ _ _
  have HZ : Hid (((w.alloc (.cells #[.slice ta c.ts.length tc, .slice la c.xs.length lc, .int .i64 c.bg, .int .i64 c.li, .int .i64 c.en, .slice na c.ns.length nc, .slice ua c.bv.length uc, .slice xa c.bc.length xc, .string c.bo, .int .i64 c.cnt, .slice ka c.ks.length kc, .int .i64 c.now, .int .i64 c.tries, .bool c.over, .slice ga c.fv.length gc, .slice ha c.fc.length hc, .string c.fo] 43)).alloc (.cells #[.slice none 0 0, .slice none 0 0, .int .i64 0, .int .i64 0, .int .i64 0, .slice none 0 0, .slice none 0 0, .slice none 0 0, .string ⟨#[]⟩, .int .i64 0, .slice none 0 0, .int .i64 0, .int .i64 0, .bool false, .slice none 0 0, .slice none 0 0, .string ⟨#[]⟩] 43)).heap[w.heap.size + 1]? = some (.cells #[.slice none 0 0, .slice none 0 0, .int .i64 0, .int .i64 0, .int .i64 0, .slice none 0 0, .slice none 0 0, .slice none 0 0, .string ⟨#[]⟩, .int .i64 0, .slice none 0 0, .int .i64 0, .int .i64 0, .bool false, .slice none 0 0, .slice none 0 0, .string ⟨#[]⟩] 43 (0, 0))) := s2_1 _ _ _
  obtain ⟨n0, hn0⟩ : ∃ n, n = ((w.alloc (.cells #[.slice ta c.ts.length tc, .slice la c.xs.length lc, .int .i64 c.bg, .int .i64 c.li, .int .i64 c.en, .slice na c.ns.length nc, .slice ua c.bv.length uc, .slice xa c.bc.length xc, .string c.bo, .int .i64 c.cnt, .slice ka c.ks.length kc, .int .i64 c.now, .int .i64 c.tries, .bool c.over, .slice ga c.fv.length gc, .slice ha c.fc.length hc, .string c.fo] 43)).alloc (.cells #[.slice none 0 0, .slice none 0 0, .int .i64 0, .int .i64 0, .int .i64 0, .slice none 0 0, .slice none 0 0, .slice none 0 0, .string ⟨#[]⟩, .int .i64 0, .slice none 0 0, .int .i64 0, .int .i64 0, .bool false, .slice none 0 0, .slice none 0 0, .string ⟨#[]⟩] 43)).heap.size := ⟨_, rfl⟩
  have HN0 : Hid (((w.alloc (.cells #[.slice ta c.ts.length tc, .slice la c.xs.length lc, .int .i64 c.bg, .int .i64 c.li, .int .i64 c.en, .slice na c.ns.length nc, .slice ua c.bv.length uc, .slice xa c.bc.length xc, .string c.bo, .int .i64 c.cnt, .slice ka c.ks.length kc, .int .i64 c.now, .int .i64 c.tries, .bool c.over, .slice ga c.fv.length gc, .slice ha c.fc.length hc, .string c.fo] 43)).alloc (.cells #[.slice none 0 0, .slice none 0 0, .int .i64 0, .int .i64 0, .int .i64 0, .slice none 0 0, .slice none 0 0, .slice none 0 0, .string ⟨#[]⟩, .int .i64 0, .slice none 0 0, .int .i64 0, .int .i64 0, .bool false, .slice none 0 0, .slice none 0 0, .string ⟨#[]⟩] 43)).heap.size = n0 ∧ n0 = w.heap.size + 2) := ⟨hn0.symm, by rw [hn0]; simp⟩
  clear hn0
  go_enter Try.func7, Try.ntmps7
  go_wp2_with (refine wpList_load_row rfl 43 _ rfl w.heap.size rfl 43 _ (0, 0) _ HA.out Try.underlying43 rfl (by kernel_rfl) ?_)
  generalize ((w.alloc (.cells #[.slice ta c.ts.length tc, .slice la c.xs.length lc, .int .i64 c.bg, .int .i64 c.li, .int .i64 c.en, .slice na c.ns.length nc, .slice ua c.bv.length uc, .slice xa c.bc.length xc, .string c.bo, .int .i64 c.cnt, .slice ka c.ks.length kc, .int .i64 c.now, .int .i64 c.tries, .bool c.over, .slice ga c.fv.length gc, .slice ha c.fc.length hc, .string c.fo] 43)).alloc (.cells #[.slice none 0 0, .slice none 0 0, .int .i64 0, .int .i64 0, .int .i64 0, .slice none 0 0, .slice none 0 0, .slice none 0 0, .string ⟨#[]⟩, .int .i64 0, .slice none 0 0, .int .i64 0, .int .i64 0, .bool false, .slice none 0 0, .slice none 0 0, .string ⟨#[]⟩] 43)) = X0 at *
  refine (C1.out X0 HB.out).mono ?_
  rintro r w1 ⟨t1a, t1c, l1a, l1c, n1a, n1c, u1a, u1c, x1a, x1c, k1a, k1c, g1a, g1c, h1a, h1c, p0, p1, p2, p3, p4, p5, p6, f, rfl, hbx, hb1, hp0, hp6, how⟩
  rw [HN0.out.1] at hbx hp0 ⊢
  have hz1 := (hb1.block (w.heap.size + 1) (blk_lt HZ.out)).trans HZ.out
  have hlt : w.heap.size + 1 < n0 := by have := HN0.out; omega
  have HBB : Hid (Below w.heap.size w w1) := HB.out.trans (hb1.mono HB.out.size)
  have HOW := hidOfT how
  have HPP : Hid (n0 + 1 ≤ p0 ∧ p6 ≤ w1.heap.size) := ⟨hp0, hp6⟩
  have HZ2 := hidOfT (show (w1.setCell ⟨n0, 11, none⟩ (.int .i64 (wrap64 (c.now + n % 10)))).heap[w.heap.size + 1]? = some (.cells #[.slice none 0 0, .slice none 0 0, .int .i64 0, .int .i64 0, .int .i64 0, .slice none 0 0, .slice none 0 0, .slice none 0 0, .string ⟨#[]⟩, .int .i64 0, .slice none 0 0, .int .i64 0, .int .i64 0, .bool false, .slice none 0 0, .slice none 0 0, .string ⟨#[]⟩] 43 (0, 0)) from (Below.heap_setCell _ _ _ _ (by show w.heap.size + 1 ≠ n0; omega)).trans hz1)
  have HG2 := hidOfT (show (w1.setCell ⟨n0, 11, none⟩ (.int .i64 (wrap64 (c.now + n % 10)))).heap[n0]? = some (.cells #[.slice t1a c.ts.length t1c, .slice l1a c.xs.length l1c, .int .i64 c.bg, .int .i64 c.li, .int .i64 c.en, .slice n1a c.ns.length n1c, .slice u1a c.bv.length u1c, .slice x1a c.bc.length x1c, .string c.bo, .int .i64 c.cnt, .slice k1a c.ks.length k1c, .int .i64 (wrap64 (c.now + n % 10)), .int .i64 c.tries, .bool c.over, .slice g1a c.fv.length g1c, .slice h1a c.fc.length h1c, .string c.fo] 43 (0, 0)) from blk_set hbx 11 _)
  have HBX : Hid (Below w.heap.size w (w1.setCell ⟨n0, 11, none⟩ (.int .i64 (wrap64 (c.now + n % 10))))) := HBB.out.setCell (by show w.heap.size ≤ n0; omega) _
  have HSX : Hid ((w1.setCell ⟨n0, 11, none⟩ (.int .i64 (wrap64 (c.now + n % 10)))).heap.size = w1.heap.size) := by show _ = _; simp [World.setCell]
  have HOX : Hid (Co.Own p0 p1 p2 p3 p4 p5 p6 (w1.setCell ⟨n0, 11, none⟩ (.int .i64 (wrap64 (c.now + n % 10)))) (.slice t1a c.ts.length t1c) (.slice l1a c.xs.length l1c) (.slice n1a c.ns.length n1c) (.slice u1a c.bv.length u1c) (.slice x1a c.bc.length x1c) (.slice k1a c.ks.length k1c) (.slice g1a c.fv.length g1c) (.slice h1a c.fc.length h1c) (c.tick n) f) := (HOW.out.keep (fun q q1 q2 => Below.heap_setCell _ _ _ _ (by show q ≠ n0; have := HPP.out; omega))).tick n
  have c11 := (blk_cell hbx 11).trans rfl
  have f11 := blk_free hbx 11
  have CT := hidOfT (imTick_any n0 c.now n w1 c11 f11)
  clear hbx hz1 hb1 hp0 hp6 how HA HZ HB HOW HBB C1 c11 f11
  go_wp2_with fail
  refine CT.out.mono ?_
  rintro r w2 ⟨rfl, rfl⟩
  clear CT
  generalize w1.setCell ⟨n0, 11, none⟩ (.int .i64 (wrap64 (c.now + n % 10))) = X2 at *
  go_wp2_with (first
    | (refine wpList_load_row rfl 43 _ rfl n0 rfl 43 _ (0, 0) _ HG2.out Try.underlying43 rfl (by kernel_rfl) ?_)
    | (refine wpList_store17 rfl 43 _ _ rfl (w.heap.size + 1) #[.slice t1a c.ts.length t1c, .slice l1a c.xs.length l1c, .int .i64 c.bg, .int .i64 c.li, .int .i64 c.en, .slice n1a c.ns.length n1c, .slice u1a c.bv.length u1c, .slice x1a c.bc.length x1c, .string c.bo, .int .i64 c.cnt, .slice k1a c.ks.length k1c, .int .i64 (wrap64 (c.now + n % 10)), .int .i64 c.tries, .bool c.over, .slice g1a c.fv.length g1c, .slice h1a c.fc.length h1c, .string c.fo] rfl rfl 43 _ HZ2.out (by kernel_rfl) rfl (by simp [Value.oneCell']) ?_))
  refine bodyPost_ret (results_cell_row (p := 4) (ty := 43) rfl _ _ (w.heap.size + 1) 43 _ (0, 0) _ rfl (setRow_heap X2 _ _ _ _ _ HZ2.out) Try.underlying43 rfl (by kernel_rfl)) rfl ?_
  exact ⟨_, _, _, _, _, _, _, _, _, _, _, _, _, _, _, _, p0, p1, p2, p3, p4, p5, p6, f, rfl, rowSetB HBX.out _ _ (by omega), by have := HPP.out; omega, by have := HPP.out; have := HSX.out; simp; omega, HOX.out.keep (fun q q1 q2 => setRow_other _ _ _ _ (by have := HPP.out; omega))⟩
end Go.Proofs.Ythnmopldpgdenaa
