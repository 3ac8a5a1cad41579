/- Trees: the trees of right nodes. -/
import Derived.Test.YtknojhmnadmilaaGreatDoorZap
import Derived.Test.YtknojhmnadmilaaGreatDoorTRo
import Derived.Test.YtknojhmnadmilaaGreatDoorZat
import Derived.Deep.DeepAppendRoom
namespace Go.Proofs.YtknojhmnadmilaaGreatDoor
open Go.RowKit

theorem TRow.trees {B X : Nat} {w : World} {v : Value} {ks : List (TypeId × Value)} (h : TRow B w v ks) (hX : X < B) : TreesAt X w v ks := by
  have hc := h
  rcases h.2 with ⟨rfl, hn⟩ | ⟨g, cap, cur, rfl, h1, hg, rest⟩
  · exact ⟨none, 0, by rw [hn], fun h0 => by omega⟩
  · refine ⟨_, cap, rfl, fun _ => ⟨g, 0, rfl, by omega, (Array.getElem?_eq_some_iff.1 hg).1, fun j hj => ?_⟩⟩
    rw [Nat.zero_add]
    exact hc.cells rfl j hj
/-- One tree more in a row of one's own. -/
theorem TRow.push {ops : Array Oper} {rest : List Oper} {o : Oper} {a : Act} {Q : Exit → Act → World → Prop} {B : Nat} {w : World} {v : Value} {ks : List (TypeId × Value)}
    (hown : TRow B w v ks) (hgd : o.guard = none) (s x : Operand)
    (ho : o.op = .call { callee := .builtin .append, args := #[s, x], argTypes := #[45, 45] })
    (hs : a.eval s = v) (z : Value) (k : TypeId × Value) (hz : z = tv k) (hx : a.eval x = .slice (some ⟨w.heap.size, 0, none⟩) 1 1)
    (hlen : ks.length < 1000000) (hB : B ≤ w.heap.size)
    (h : ∀ v' w', TRow B w' v' (ks ++ [k]) → Below B w w' → wpList Tryz.prog ops Q rest (a.put o.dst v') w') :
    wpList Tryz.prog ops Q (o :: rest) a (w.alloc (.cells #[z] 57)) := by
  subst hz
  obtain ⟨i0, hi, hz0, hz1, hz2⟩ := info_parts Tryz.infoT
  refine wpList_append_own _ hgd s x 45 ho B 57 i0 .nilIface 1 16 Tryz.underlying45 hi hz0 hz1 hz2 rfl (by decide) v ks.length (ks.map tv) hs (World.ownsRow.alloc hown _) ⟨w.heap.size, 0, none⟩ 1 1 [tv k] hx rfl (cell_one_new _ _ _) ?_ ?_ ?_ ?_ ?_
  · intro u hu; simp at hu; subst hu; rfl
  · unfold maxLen; omega
  · omega
  · simp; omega
  · intro v' w' h2 h3 _
    refine h v' w' ?_ ?_
    · unfold TRow; simpa using h2
    · exact ((Below.refl B w).alloc hB _).grown h3 (by simp; omega) (fun k hk => (hown.lt k hk).1)
/-- One tree more in a row that has room. -/
theorem TRow.fill {ops : Array Oper} {rest : List Oper} {o : Oper} {a : Act} {Q : Exit → Act → World → Prop} {B : Nat} {w : World} {g n cap : Nat} {ks : List (TypeId × Value)}
    (hown : TRow B w (.slice (some ⟨g, 0, none⟩) n cap) ks) (hn : ks.length = n) (hgd : o.guard = none) (s x : Operand)
    (ho : o.op = .call { callee := .builtin .append, args := #[s, x], argTypes := #[45, 45] })
    (hs : a.eval s = .slice (some ⟨g, 0, none⟩) n cap) (z : Value) (k : TypeId × Value) (hz : z = tv k) (hx : a.eval x = .slice (some ⟨w.heap.size, 0, none⟩) 1 1)
    (hroom : n + 1 ≤ cap)
    (h : ∀ w', TRow B w' (.slice (some ⟨g, 0, none⟩) (n + 1) cap) (ks ++ [k]) → But g w w' → (∀ C, C ≤ g → Below C (w.alloc (.cells #[z] 57)) w') → wpList Tryz.prog ops Q rest (a.put o.dst (.slice (some ⟨g, 0, none⟩) (n + 1) cap)) w') :
    wpList Tryz.prog ops Q (o :: rest) a (w.alloc (.cells #[z] 57)) := by
  subst hz hn
  obtain ⟨i0, hi, hz0, hz1, hz2⟩ := info_parts Tryz.infoT
  refine wpList_append_own_spare _ hgd s x 45 ho B 57 i0 1 Tryz.underlying45 hi hz1 g ks.length cap (ks.map tv) hs (World.ownsRow.alloc hown _) ⟨w.heap.size, 0, none⟩ 1 1 [tv k] hx rfl (cell_one_new _ _ _) ?_ hroom ?_
  · intro u hu; simp at hu; subst hu; rfl
  · intro w' h2 h3
    refine h w' ?_ ?_ ?_
    · unfold TRow; simpa using h2
    · refine ⟨Nat.le_trans (by simp) h3.size, fun q hq hX => ?_⟩
      rw [h3.block q (by simp; omega) (by simp; exact hX)]
      exact ((Below.refl w.heap.size w).alloc (Nat.le_refl _) (.cells #[tv k] 57)).block q hq
    · intro C hC
      exact (Below.refl C _).grown h3 (by have := (hown.lt g rfl).2; simp; omega) (fun k hk => by cases hk; exact hC)

theorem makeT_run (n : Nat) (h : n ≤ 1000000000) : ∃ M : Array Value, M.size = n ∧ ∀ W : World, (Instr.makeSlice 45 (.int .i64 0) (.int .i64 (n : Int))).run Tryz.prog W = .ok (.slice (some ⟨W.heap.size, 0, none⟩) 0 n) (W.alloc (.cells M 57)) := by
  obtain ⟨i0, hi, hz0, hz1, hz2⟩ := info_parts Tryz.infoT
  refine ⟨madeCells (Value.nilIface).cells (((n : Nat) : Int).toNat * i0.size), ?_, fun W => ?_⟩
  · rw [size_madeCells, hz1]; simp
  · have h := run_make (P := Tryz.prog) W 45 57 i0 _ Tryz.underlying45 hi hz0 .i64 .i64 0 (n : Int) (by omega) (by omega) (by rw [hz2]; omega) (by omega)
    simpa using h

/-- The tree of a right expression's node. -/
theorem exOf_all {X : Nat} {ps : List Pi} {i : Nat} (hn : Pg.node ps i = true) (he : Pg.ex (ps.getD i Pi.no).op = true) (na : Option Addr) (nl nc : Nat) (v : Value) (kt : List (TypeId × Value)) (w : World) (h : TreesAt X w v kt) (hk : kt.length = (ps.getD i Pi.no).kids.length) :
    Calls Tryz.prog 35 #[.agg #[.int .i64 (ps.getD i Pi.no).op, .string (ps.getD i Pi.no).text, .slice na nl nc], v] w fun e w' => e = .returned (tv (exTree (ps.getD i Pi.no).op (ps.getD i Pi.no).text kt)) ∧ Below w.heap.size w w' := by
  obtain ⟨o1, o16, hm, -⟩ := Sh.node_ex hn he
  generalize (ps.getD i Pi.no).kids.length = m at *
  generalize (ps.getD i Pi.no).text = t at *
  have hop : (ps.getD i Pi.no).op = 1 ∨ (ps.getD i Pi.no).op = 2 ∨ (ps.getD i Pi.no).op = 3 ∨ (ps.getD i Pi.no).op = 4 ∨ (ps.getD i Pi.no).op = 5 ∨ (ps.getD i Pi.no).op = 6 ∨ (ps.getD i Pi.no).op = 7 ∨ (ps.getD i Pi.no).op = 8 ∨ (ps.getD i Pi.no).op = 9 ∨ (ps.getD i Pi.no).op = 10 ∨ (ps.getD i Pi.no).op = 11 ∨ (ps.getD i Pi.no).op = 12 ∨ (ps.getD i Pi.no).op = 13 ∨ (ps.getD i Pi.no).op = 14 ∨ (ps.getD i Pi.no).op = 15 ∨ (ps.getD i Pi.no).op = 16 := by omega
  rcases hop with c | c | c | c | c | c | c | c | c | c | c | c | c | c | c | c
  · rw [c] at hm ⊢
    exact exOf1 t na nl nc v kt w h
  · rw [c] at hm ⊢
    exact exOf2 t na nl nc v kt w h
  · rw [c] at hm ⊢
    exact exOf3 t na nl nc v kt w h
  · rw [c] at hm ⊢
    have hm2 : 1 ≤ m ∧ m ≤ 1 := hm
    exact exOf4 t na nl nc v kt w h (by omega)
  · rw [c] at hm ⊢
    have hm2 : 1 ≤ m ∧ m ≤ 1 := hm
    exact exOf5 t na nl nc v kt w h (by omega)
  · rw [c] at hm ⊢
    exact exOf6 t na nl nc v kt w h
  · rw [c] at hm ⊢
    exact exOf7 t na nl nc v kt w h
  · rw [c] at hm ⊢
    have hm2 : 1 ≤ m ∧ m ≤ 1 := hm
    exact exOf8 t na nl nc v kt w h (by omega)
  · rw [c] at hm ⊢
    have hm2 : 2 ≤ m ∧ m ≤ 2 := hm
    exact exOf9 t na nl nc v kt w h (by omega)
  · rw [c] at hm ⊢
    have hm2 : 2 ≤ m ∧ m ≤ 2 := hm
    exact exOf10 t na nl nc v kt w h (by omega)
  · rw [c] at hm ⊢
    have hm2 : 2 ≤ m ∧ m ≤ 2 := hm
    exact exOf11 t na nl nc v kt w h (by omega)
  · rw [c] at hm ⊢
    have hm2 : 2 ≤ m ∧ m ≤ 2 := hm
    exact exOf12 t na nl nc v kt w h (by omega)
  · rw [c] at hm ⊢
    have hm2 : 2 ≤ m ∧ m ≤ 2 := hm
    exact exOf13 t na nl nc v kt w h (by omega)
  · rw [c] at hm ⊢
    have hm2 : 2 ≤ m ∧ m ≤ 2 := hm
    exact exOf14 t na nl nc v kt w h (by omega)
  · rw [c] at hm ⊢
    have hm2 : 2 ≤ m ∧ m ≤ 2 := hm
    exact exOf15 t na nl nc v kt w h (by omega)
  · rw [c] at hm ⊢
    have hm2 : 1 ≤ m ∧ m ≤ 1 := hm
    exact exOf16 t na nl nc v kt w h (by omega)
/-- The tree of a right statement's node. -/
theorem stOf_all {X : Nat} {ps : List Pi} {i : Nat} (hn : Pg.node ps i = true) (he : Pg.ex (ps.getD i Pi.no).op = false) (na : Option Addr) (nl nc : Nat) (v : Value) (kt : List (TypeId × Value)) (w : World) (h : TreesAt X w v kt) (hk : kt.length = (ps.getD i Pi.no).kids.length) :
    Calls Tryz.prog 36 #[.agg #[.int .i64 (ps.getD i Pi.no).op, .string (ps.getD i Pi.no).text, .slice na nl nc], v] w fun e w' => e = .returned (tv (stTree (ps.getD i Pi.no).op (ps.getD i Pi.no).text v kt)) ∧ Below w.heap.size w w' := by
  obtain ⟨o1, o25, hm, -⟩ := Sh.node_st hn he
  generalize (ps.getD i Pi.no).kids.length = m at *
  generalize (ps.getD i Pi.no).text = t at *
  have hop : (ps.getD i Pi.no).op = 17 ∨ (ps.getD i Pi.no).op = 18 ∨ (ps.getD i Pi.no).op = 19 ∨ (ps.getD i Pi.no).op = 20 ∨ (ps.getD i Pi.no).op = 21 ∨ (ps.getD i Pi.no).op = 22 ∨ (ps.getD i Pi.no).op = 23 ∨ (ps.getD i Pi.no).op = 24 ∨ (ps.getD i Pi.no).op = 25 := by omega
  rcases hop with c | c | c | c | c | c | c | c | c
  · rw [c] at hm ⊢
    exact stOf17 t na nl nc v kt w h
  · rw [c] at hm ⊢
    have hm2 : 1 ≤ m ∧ m ≤ 1 := hm
    exact stOf18 t na nl nc v kt w h (by omega)
  · rw [c] at hm ⊢
    have hm2 : 1 ≤ m ∧ m ≤ 1 := hm
    exact stOf19 t na nl nc v kt w h (by omega)
  · rw [c] at hm ⊢
    have hm2 : 2 ≤ m ∧ m ≤ 2 := hm
    exact stOf20 t na nl nc v kt w h (by omega)
  · rw [c] at hm ⊢
    have hm2 : 2 ≤ m ∧ m ≤ 2 := hm
    exact stOf21 t na nl nc v kt w h (by omega)
  · rw [c] at hm ⊢
    have hm2 : 2 ≤ m ∧ m ≤ 3 := hm
    by_cases h3 : m = 3
    · exact stOf22_3 t na nl nc v kt w h (by omega)
    · exact stOf22_2 t na nl nc v kt w h (by omega)
  · rw [c] at hm ⊢
    exact stOf23 t na nl nc v kt w h
  · rw [c] at hm ⊢
    exact stOf24 t na nl nc v kt w h
  · rw [c] at hm ⊢
    exact stOf25 t na nl nc v kt w h
set_option maxRecDepth 100000 in
set_option maxHeartbeats 1000000 in
theorem treesOf_any (v : Value) (ps : List Pi) (w : World) (h : PcsAt w v ps) (hl : ps.length ≤ 200) (hn : ∀ i, i < ps.length → Pg.node ps i = true) (h2 : TwoS w) :
    Calls Tryz.prog 19 #[v] w fun e w' => ∃ kt : List (TypeId × Value), e = .returned (.slice (some ⟨w.heap.size, 0, none⟩) ps.length ps.length) ∧ kt.length = ps.length ∧ Below w.heap.size w w' ∧
      (∀ j, j < ps.length → w'.cell? ⟨w.heap.size, j, none⟩ = some (tv (kt.getD j tno))) ∧ ∀ j, j < ps.length → Good w.heap.size w' ps j (kt.getD j tno) := by
  have hX : w.heap.size ≠ 0 := by have := World.block_lt_of_cell? w _ h2.1; simp at this; omega
  have HN : Hid (∀ i, i < ps.length → Pg.node ps i = true) := hn
  have H2 : Hid (TwoS w) := h2
  obtain ⟨va, vc, rfl, f⟩ := h
  obtain ⟨n, hnn⟩ : ∃ n, n = ps.length := ⟨_, rfl⟩
  have HPN : Hid (n = ps.length) := hnn
  rw [← hnn] at f HN hl ⊢
  have HF : Hid (0 < n → ∃ b o, va = some ⟨b, o, none⟩ ∧ b < w.heap.size ∧ ∀ i, i < n → PieceAt w b (o + i * 3) (ps.getD i Pi.no)) := f
  clear f hn hnn h2
  obtain ⟨M, hM, hmk⟩ := makeT_run n (by omega)
  have HR0 : Hid (TRow w.heap.size (w.alloc (.cells M 57)) (.slice (some ⟨w.heap.size, 0, none⟩) 0 n) []) := World.ownsRow_made w M n (Nat.le_refl _) (by unfold maxLen; omega) (by rw [hM]; omega)
  have HB0 : Hid (Below w.heap.size w (w.alloc (.cells M 57))) := (Below.refl _ _).alloc (Nat.le_refl _) _
  go_enter Tryz.func19, Tryz.ntmps19
  go_wp2
  clear hmk hM
  generalize w.alloc (.cells M 57) = W0 at *
  go_loopw [14, 3] (fun i x wr => ∃ (k : Nat) (kt : List (TypeId × Value)), i = .int .i64 (k : Int) ∧ x = .slice (some ⟨w.heap.size, 0, none⟩) k n ∧ k ≤ n ∧ Hid (kt.length = k ∧ Below w.heap.size w wr ∧ TRow w.heap.size wr (.slice (some ⟨w.heap.size, 0, none⟩) k n) kt ∧ ∀ j, j < k → Good w.heap.size wr ps j (kt.getD j tno))) (fun i _ _ => n - (intOf i).toNat)
  case atStart => exact ⟨0, [], rfl, rfl, by omega, rfl, HB0.out, HR0.out, fun j hj => by omega⟩
  case round =>
    obtain ⟨k, kt, rfl, rfl, hkn, HI⟩ := hrel
    by_cases hlt : k < n
    · obtain ⟨b, o, rfl, hb, hc⟩ := HF.out (by omega)
      obtain ⟨kv, p0, p1, p2, hkv⟩ := hc k hlt
      have hbel := HI.out.2.1
      have c0 := (hbel.cell hb).trans p0
      have c1 := (hbel.cell hb).trans p1
      have c2 := (hbel.cell hb).trans p2
      have hkv2 := hkv.keep hbel
      obtain ⟨ka, kc, rfl, g⟩ := hkv2
      have HNK : Hid (Pg.node ps k = true) := HN.out k hlt
      have hnk := Pg.node_kids (HN.out k hlt)
      have HKIN : Hid (∀ q, q < (ps.getD k Pi.no).kids.length → 0 ≤ (ps.getD k Pi.no).kids.getD q 0 ∧ (ps.getD k Pi.no).kids.getD q 0 ≤ (k : Int) - 1) := hnk.2
      have hk20 := hnk.1
      have HEX : Hid (Pg.ex (ps.getD k Pi.no).op = true → ∀ na nl nc v kt W, TreesAt w.heap.size W v kt → kt.length = (ps.getD k Pi.no).kids.length → Calls Tryz.prog 35 #[.agg #[.int .i64 (ps.getD k Pi.no).op, .string (ps.getD k Pi.no).text, .slice na nl nc], v] W fun e w' => e = .returned (tv (exTree (ps.getD k Pi.no).op (ps.getD k Pi.no).text kt)) ∧ Below W.heap.size W w') := fun he na nl nc v kt W h hk => exOf_all HNK.out he na nl nc v kt W h hk
      have HST : Hid (Pg.ex (ps.getD k Pi.no).op = false → ∀ na nl nc v kt W, TreesAt w.heap.size W v kt → kt.length = (ps.getD k Pi.no).kids.length → Calls Tryz.prog 36 #[.agg #[.int .i64 (ps.getD k Pi.no).op, .string (ps.getD k Pi.no).text, .slice na nl nc], v] W fun e w' => e = .returned (tv (stTree (ps.getD k Pi.no).op (ps.getD k Pi.no).text v kt)) ∧ Below W.heap.size W w') := fun he na nl nc v kt W h hk => stOf_all HNK.out he na nl nc v kt W h hk
      have HGE : Hid (∀ W, TwoS W → Pg.ex (ps.getD k Pi.no).op = true → ∀ kk : List (TypeId × Value), (∀ j, j < (ps.getD k Pi.no).kids.length → Good w.heap.size W ps (Sh.kid (ps.getD k Pi.no) j) (kk.getD j tno)) → Good w.heap.size W ps k (exTree (ps.getD k Pi.no).op (ps.getD k Pi.no).text kk)) := fun W h2 he kk hk => goodEx (by rw [← HPN.out]; exact HN.out) hX h2 (by rw [← HPN.out]; exact hlt) he kk hk
      have HGS : Hid (∀ W v, Pg.ex (ps.getD k Pi.no).op = false → ∀ kk : List (TypeId × Value), TreesAt w.heap.size W v kk → kk.length = (ps.getD k Pi.no).kids.length → (∀ j, j < (ps.getD k Pi.no).kids.length → Good w.heap.size W ps (Sh.kid (ps.getD k Pi.no) j) (kk.getD j tno)) → Good w.heap.size W ps k (stTree (ps.getD k Pi.no).op (ps.getD k Pi.no).text v kk)) := fun W v he kk hv hkl hk => goodSt (by rw [← HPN.out]; exact HN.out) (by rw [← HPN.out]; exact hlt) he v kk hv hkl hk
      have HKD : Hid (∀ j, Sh.kid (ps.getD k Pi.no) j = ((ps.getD k Pi.no).kids.getD j 0).toNat) := fun j => rfl
      have HG : Hid (0 < (ps.getD k Pi.no).kids.length → ∃ b o, ka = some ⟨b, o, none⟩ ∧ b < wr.heap.size ∧ ∀ j, j < (ps.getD k Pi.no).kids.length → wr.cell? ⟨b, o + j, none⟩ = some (.int .i64 ((ps.getD k Pi.no).kids.getD j 0))) := g
      have CX : Hid (∀ W, Calls Tryz.prog 34 #[.int .i64 (ps.getD k Pi.no).op] W fun e w' => e = .returned (.bool (Pg.ex (ps.getD k Pi.no).op)) ∧ w' = W) := fun W => isEx_any _ W
      clear g hc p0 p1 p2 hkv hnk hbel hb
      generalize Pg.ex (ps.getD k Pi.no).op = xb at *
      generalize (ps.getD k Pi.no).op = op at *
      generalize (ps.getD k Pi.no).text = tx at *
      generalize Sh.kid (ps.getD k Pi.no) = kd at *
      generalize (ps.getD k Pi.no).kids = ks at *
      obtain ⟨m, hm⟩ : ∃ m, m = ks.length := ⟨_, rfl⟩
      rw [← hm] at HKIN hk20 HEX HST HGE HGS HG c2
      clear hm
      have i1 : (k : Int) < (n : Int) := by omega
      have i0 : (0 : Int) ≤ (k : Int) := by omega
      have HBU : Hid (Below wr.heap.size wr (wr.alloc (.cells #[.int .i64 op, .string tx, .slice ka m kc] 67))) := (Below.refl _ _).alloc (Nat.le_refl _) _
      have hu := heap_alloc_new wr (.cells #[.int .i64 op, .string tx, .slice ka m kc] 67)
      have hul : wr.heap.size < (wr.alloc (.cells #[.int .i64 op, .string tx, .slice ka m kc] 67)).heap.size := by simp
      go_wp2
      generalize wr.alloc (.cells #[.int .i64 op, .string tx, .slice ka m kc] 67) = U at *
      have HX : Hid (w.heap.size < U.heap.size) := by
        have h1 := HI.out.2.2.1
        rcases h1.2 with ⟨hh, -⟩ | ⟨g, cap, cur, hh, -, hg, -⟩
        · cases hh
        · simp only [Value.slice.injEq, Option.some.injEq, Addr.mk.injEq] at hh
          obtain ⟨⟨rfl, -⟩, -⟩ := hh
          exact Nat.lt_of_lt_of_le (Array.getElem?_eq_some_iff.1 hg).1 HBU.out.size
      obtain ⟨R, hRR⟩ : ∃ R, R = wr := ⟨_, rfl⟩
      subst hRR
      have HC : Hid (∀ W, Below U.heap.size U W → W.cell? ⟨R.heap.size, 0, none⟩ = some (.int .i64 op) ∧ W.cell? ⟨R.heap.size, 1, none⟩ = some (.string tx) ∧ W.cell? ⟨R.heap.size, 2, none⟩ = some (.slice ka m kc)) := fun W hb => tcells3 ((hb.block _ hul).trans hu)
      have HTR : Hid (∀ W, Below U.heap.size U W → TRow w.heap.size W (.slice (some ⟨w.heap.size, 0, none⟩) k n) kt ∧ (∀ j, j < k → Good w.heap.size W ps j (kt.getD j tno)) ∧ Below w.heap.size w W) := fun W hb => by
        have hRW : Below R.heap.size R W := HBU.out.trans (hb.mono HBU.out.size)
        exact ⟨HI.out.2.2.1.keep hRW, fun j hj => (HI.out.2.2.2 j hj).keep (But.of hRW), HI.out.2.1.trans (hRW.mono HI.out.2.1.size)⟩
      clear hu hul c0 c1 c2
      go_loopw [21, 6] (fun i x W => ∃ (q : Nat) (kk : List (TypeId × Value)), i = .int .i64 (q : Int) ∧ q ≤ m ∧ Hid (kk.length = q ∧ Below U.heap.size U W ∧ TRow U.heap.size W x kk ∧ ∀ j, j < q → kk.getD j tno = kt.getD (ks.getD j 0).toNat tno)) (fun i _ _ => m - (intOf i).toNat)
      case atStart => exact ⟨0, [], rfl, by omega, rfl, Below.refl _ _, World.ownsRow_nil _ _ _ _, fun j hj => by omega⟩
      case round =>
        obtain ⟨q, kk, rfl, hq, HQ⟩ := hrel
        obtain ⟨ad, cp, hform⟩ := HQ.out.2.2.1.form
        subst hform
        by_cases hqm : q < m
        · obtain ⟨gb, go, rfl, hgb, hgc⟩ := HG.out (by omega)
          have hUW := HQ.out.2.1
          have d1 := ((HBU.out.trans (hUW.mono HBU.out.size)).cell hgb).trans (hgc q hqm)
          have hz := HKIN.out q hqm
          have HKN : Hid (∀ kx, kx = kt.getD (ks.getD q 0).toNat tno → ∀ j, j < q + 1 → (kk ++ [kx]).getD j tno = kt.getD (ks.getD j 0).toNat tno) := fun kx hkx j hj => by
            have hlq := HQ.out.1
            by_cases e : j = q
            · subst e
              rw [hkx]
              simp [List.getD_eq_getElem?_getD, hlq]
            · rw [← HQ.out.2.2.2 j (by omega)]
              simp [List.getD_eq_getElem?_getD, List.getElem?_append_left (show j < kk.length by omega)]
          generalize ks.getD q 0 = z at *
          obtain ⟨y, rfl⟩ : ∃ y : Nat, z = (y : Int) := ⟨z.toNat, by omega⟩
          have d2 := (HTR.out _ hUW).1.cells HI.out.1 y (by omega)
          obtain ⟨T, x, hTx⟩ := pair_get (kt.getD y tno)
          rw [hTx] at d2
          unfold tv at d2
          have HKX : Hid (kt.getD (y : Int).toNat tno = (T, x)) := hTx
          simp only at d2
          clear hgc hTx hUW
          have i2 : (q : Int) < (m : Int) := by omega
          have i3 : (0 : Int) ≤ (q : Int) := by omega
          have i4 : (y : Int) < (k : Int) := by omega
          have i5 : (0 : Int) ≤ (y : Int) := by omega
          go_wp2_with (at_builtin; go_must (refine HQ.out.2.2.1.push rfl (.tmp 25) (.tmp 30) rfl rfl _ (T, x) rfl rfl ?hl ?hb ?_))
          case hl => have := HQ.out.1; omega
          case hb => exact HQ.out.2.1.size
          intro v' w' hrow hbw
          have HQ2 : Hid ((kk ++ [(T, x)]).length = q + 1 ∧ Below U.heap.size U w' ∧ TRow U.heap.size w' v' (kk ++ [(T, x)]) ∧ ∀ j, j < q + 1 → (kk ++ [(T, x)]).getD j tno = kt.getD (ks.getD j 0).toNat tno) := ⟨by have := HQ.out.1; simp; omega, HQ.out.2.1.trans hbw, hrow, HKN.out (T, x) HKX.out.symm⟩
          clear hrow hbw HQ HKN HKX
          go_wp2
          go_roundw
          case rel => exact ⟨q + 1, kk ++ [(T, x)], by go_num, by omega, HQ2.out⟩
          case measure => simp [intOf]; omega
        · obtain rfl : q = m := by omega
          have hUW := HQ.out.2.1
          have htr := HQ.out.2.2.1.trees HX.out
          have hgk : ∀ j, j < q → Good w.heap.size wr ps (kd j) (kk.getD j tno) := fun j hj => by
            rw [HQ.out.2.2.2 j hj, HKD.out]
            have := HKIN.out j hj
            exact (HTR.out _ hUW).2.1 _ (by omega)
          have HTS : Hid (TwoS wr) := H2.out.keep hX (But.of (HTR.out _ hUW).2.2)
          have HGK : Hid (∀ j, j < q → Good w.heap.size wr ps (kd j) (kk.getD j tno)) := hgk
          have HTT : Hid (TRow w.heap.size wr (.slice (some ⟨w.heap.size, 0, none⟩) k n) kt ∧ (∀ j, j < k → Good w.heap.size wr ps j (kt.getD j tno)) ∧ Below w.heap.size w wr) := HTR.out _ hUW
          obtain ⟨e0, e1, e2⟩ := HC.out _ hUW
          clear HG
          have i2 : ¬ ((q : Int) < (q : Int)) := by omega
          obtain ⟨S, hSS⟩ : ∃ S, S = wr := ⟨_, rfl⟩
          subst hSS
          cases xb
          · have CS := HST.out rfl ka q kc _ kk S htr HQ.out.1
            have HGD := HGS.out S _ rfl kk htr HQ.out.1 HGK.out
            obtain ⟨tr, htree⟩ : ∃ tr, tr = stTree op tx (.slice ad kk.length cp) kk := ⟨_, rfl⟩
            rw [← htree] at CS HGD
            have C2 : Hid (Calls Tryz.prog 36 #[.agg #[.int .i64 op, .string tx, .slice ka q kc], .slice ad kk.length cp] S fun e w' => e = .returned (tv tr) ∧ Below S.heap.size S w') := CS
            have HG2 : Hid (Good w.heap.size S ps k tr) := HGD
            clear CS HGD htree HEX HST HGE HGS htr hgk hUW
            obtain ⟨T, x, rfl⟩ := pair_get tr
            unfold tv at C2
            go_wp2_with (go_at_call 34; refine (CX.out _).mono ?_; rintro e w1 ⟨rfl, hw1⟩; rw [hw1])
            refine C2.out.mono ?_
            rintro e w2 ⟨rfl, hb2⟩
            have HROW : Hid (TRow w.heap.size w2 (.slice (some ⟨w.heap.size, 0, none⟩) k n) kt) := HTT.out.1.keep hb2
            have HALL : Hid (∀ w', But w.heap.size w2 w' → (∀ j, j < k → Good w.heap.size w' ps j (kt.getD j tno)) ∧ Good w.heap.size w' ps k (T, x)) := fun w' hw => ⟨fun j hj => (HTT.out.2.1 j hj).keep ((But.of hb2).trans hw), HG2.out.keep ((But.of hb2).trans hw)⟩
            have HBW : Hid (Below w.heap.size w w2) := HTT.out.2.2.trans (hb2.mono HTT.out.2.2.size)
            clear hb2 C2 HTT HG2 HGK
            go_wp2_with (at_builtin; go_must (refine HROW.out.fill HI.out.1 rfl (.tmp 42) (.tmp 46) rfl rfl _ (T, x) rfl rfl ?hroom ?_))
            case hroom => omega
            intro w' hrow hbut hbel
            have HN2 : Hid ((kt ++ [(T, x)]).length = k + 1 ∧ Below w.heap.size w w' ∧ TRow w.heap.size w' (.slice (some ⟨w.heap.size, 0, none⟩) (k + 1) n) (kt ++ [(T, x)]) ∧ ∀ j, j < k + 1 → Good w.heap.size w' ps j ((kt ++ [(T, x)]).getD j tno)) := by
              refine ⟨by have := HI.out.1; simp; omega, (HBW.out.alloc HBW.out.size _).trans (hbel _ (Nat.le_refl _)), hrow, fun j hj => ?_⟩
              have hlk := HI.out.1
              by_cases e : j = k
              · subst e
                rw [show (kt ++ [(T, x)]).getD j tno = (T, x) by simp [List.getD_eq_getElem?_getD, hlk]]
                exact (HALL.out w' hbut).2
              · rw [show (kt ++ [(T, x)]).getD j tno = kt.getD j tno by simp [List.getD_eq_getElem?_getD, List.getElem?_append_left (show j < kt.length by omega)]]
                exact (HALL.out w' hbut).1 j (by omega)
            clear hrow hbut hbel HALL HROW
            go_wp2
            go_roundw
            case rel => exact ⟨k + 1, kt ++ [(T, x)], by go_num, by go_num, by omega, HN2.out⟩
            case measure => simp [intOf]; omega
          · have CS := HEX.out rfl ka q kc _ kk S htr HQ.out.1
            have HGD := HGE.out S HTS.out rfl kk HGK.out
            obtain ⟨tr, htree⟩ : ∃ tr, tr = exTree op tx kk := ⟨_, rfl⟩
            rw [← htree] at CS HGD
            have C2 : Hid (Calls Tryz.prog 35 #[.agg #[.int .i64 op, .string tx, .slice ka q kc], .slice ad kk.length cp] S fun e w' => e = .returned (tv tr) ∧ Below S.heap.size S w') := CS
            have HG2 : Hid (Good w.heap.size S ps k tr) := HGD
            clear CS HGD htree HEX HST HGE HGS htr hgk hUW
            obtain ⟨T, x, rfl⟩ := pair_get tr
            unfold tv at C2
            go_wp2_with (go_at_call 34; refine (CX.out _).mono ?_; rintro e w1 ⟨rfl, hw1⟩; rw [hw1])
            refine C2.out.mono ?_
            rintro e w2 ⟨rfl, hb2⟩
            have HROW : Hid (TRow w.heap.size w2 (.slice (some ⟨w.heap.size, 0, none⟩) k n) kt) := HTT.out.1.keep hb2
            have HALL : Hid (∀ w', But w.heap.size w2 w' → (∀ j, j < k → Good w.heap.size w' ps j (kt.getD j tno)) ∧ Good w.heap.size w' ps k (T, x)) := fun w' hw => ⟨fun j hj => (HTT.out.2.1 j hj).keep ((But.of hb2).trans hw), HG2.out.keep ((But.of hb2).trans hw)⟩
            have HBW : Hid (Below w.heap.size w w2) := HTT.out.2.2.trans (hb2.mono HTT.out.2.2.size)
            clear hb2 C2 HTT HG2 HGK
            go_wp2_with (at_builtin; go_must (refine HROW.out.fill HI.out.1 rfl (.tmp 36) (.tmp 40) rfl rfl _ (T, x) rfl rfl ?hroom ?_))
            case hroom => omega
            intro w' hrow hbut hbel
            have HN2 : Hid ((kt ++ [(T, x)]).length = k + 1 ∧ Below w.heap.size w w' ∧ TRow w.heap.size w' (.slice (some ⟨w.heap.size, 0, none⟩) (k + 1) n) (kt ++ [(T, x)]) ∧ ∀ j, j < k + 1 → Good w.heap.size w' ps j ((kt ++ [(T, x)]).getD j tno)) := by
              refine ⟨by have := HI.out.1; simp; omega, (HBW.out.alloc HBW.out.size _).trans (hbel _ (Nat.le_refl _)), hrow, fun j hj => ?_⟩
              have hlk := HI.out.1
              by_cases e : j = k
              · subst e
                rw [show (kt ++ [(T, x)]).getD j tno = (T, x) by simp [List.getD_eq_getElem?_getD, hlk]]
                exact (HALL.out w' hbut).2
              · rw [show (kt ++ [(T, x)]).getD j tno = kt.getD j tno by simp [List.getD_eq_getElem?_getD, List.getElem?_append_left (show j < kt.length by omega)]]
                exact (HALL.out w' hbut).1 j (by omega)
            clear hrow hbut hbel HALL HROW
            go_wp2
            go_roundw
            case rel => exact ⟨k + 1, kt ++ [(T, x)], by go_num, by go_num, by omega, HN2.out⟩
            case measure => simp [intOf]; omega
    · obtain rfl : k = n := by omega
      have i2 : ¬ ((k : Int) < (k : Int)) := by omega
      have HE : Hid (kt.length = k ∧ Below w.heap.size w wr ∧ (∀ j, j < k → wr.cell? ⟨w.heap.size, j, none⟩ = some (tv (kt.getD j tno))) ∧ ∀ j, j < k → Good w.heap.size wr ps j (kt.getD j tno)) := ⟨HI.out.1, HI.out.2.1, fun j hj => HI.out.2.2.1.cells HI.out.1 j hj, HI.out.2.2.2⟩
      clear HI HN HF
      go_wp2
      go_ret
      exact ⟨rfl, kt, HE.out⟩
#print axioms treesOf_any
end Go.Proofs.YtknojhmnadmilaaGreatDoor
