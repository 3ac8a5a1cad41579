/- Texts moved together: the program's together. Plain facts, without the program: sums of 32 bits, step by step and by tables, and that texts that differ in one byte have other sums. -/
import Derived.Test.YtdkenmpdgadcpaaDoorMPMtCoS
import Derived.Test.YtdkenmpdgadcpaaDoorMPMtZap
import Derived.Test.YtdkenmpdgadcpaaDoorMPMtZaa
import Derived.Lib.BufferWrite
import Derived.Laws.CopyOwn
import Derived.Lib.ConvBytes
namespace Go.Proofs.YtdkenmpdgadcpaaDoor
section PartTgA
open Go.RowKit

/-- All texts, one behind the other. -/
def Tg.all (ts : List ByteArray) : List UInt8 := ts.flatMap fun t => t.data.toList
theorem Tg.take_all (ts : List ByteArray) (k : Nat) (h : k < ts.length) : Tg.all (ts.take (k + 1)) = Tg.all (ts.take k) ++ (ts.getD k ByteArray.empty).data.toList := by
  exact Cd.take_flat (fun t => t.data.toList) ts ByteArray.empty k h
theorem Tg.take_le (ts : List ByteArray) (k : Nat) : (Tg.all (ts.take k)).length ≤ (Tg.all ts).length := by
  have : Tg.all ts = Tg.all (ts.take k) ++ Tg.all (ts.drop k) := by
    unfold Tg.all
    rw [← List.flatMap_append, List.take_append_drop]
  rw [this, List.length_append]
  omega
theorem Tg.byteInfo : (Tryd.prog.info? 5).map (fun i => (i.zero, i.size, i.bytes)) = some (some (.int .u8 0), 1, 1) := by kernel_rfl
theorem Tg.mk_run (n : Nat) (h : n ≤ 1000000000) : ∃ M : Array Value, M.size = n ∧ ∀ W : World, (Instr.makeSlice 36 (.int .i64 (n : Int)) (.int .i64 (n : Int))).run Tryd.prog W = .ok (.slice (some ⟨W.heap.size, 0, none⟩) n n) (W.alloc (.cells M 5)) := by
  obtain ⟨i0, hi, hz0, hz1, hz2⟩ := info_parts Tg.byteInfo
  refine ⟨madeCells (Value.int .u8 0).cells (((n : Nat) : Int).toNat * i0.size), ?_, fun W => ?_⟩
  · rw [size_madeCells, hz1]; simp
  · have h := run_make (P := Tryd.prog) W 36 5 i0 (.int .u8 0) Tryd.underlying36 hi hz0 .i64 .i64 (n : Int) (n : Int) (by omega) (by omega) (by rw [hz2]; omega) (by omega)
    simpa using h
theorem Tg.sizeU8 : ∀ w, (Go.sizeOf 5).run Tryd.prog w = .ok 1 w := by
  intro w
  obtain ⟨i0, hi, hz0, hz1, hz2⟩ := info_parts Tg.byteInfo
  simp [Go.sizeOf, typeInfo, hi, hz1]
/-- left[:n:n] -/
theorem Tg.cut (W : World) (a : Addr) (m n : Nat) (h : n ≤ m) : (Instr.slice 36 (.slice (some a) m m) none (some (.int .i64 (n : Int))) (some (.int .i64 (n : Int)))).run Tryd.prog W = .ok (.slice (some a) n n) W := by
  have ht : Tryd.prog.underlying 36 = some (.slice (Tryd.prog.elem 36)) := by simp [Program.elem, Tryd.underlying36]
  have he : Tryd.prog.elem 36 = 5 := by simp [Program.elem, Tryd.underlying36]
  rw [run_slice_hm W 36 _ _ _ ht .i64 .i64 _ _ (by omega) (by omega) (by omega), he, Tg.sizeU8]
  simp only [Result.andThen, sliced]
  by_cases h0 : n = 0
  · subst h0; simp
  · simp [Addr.add, h0]
/-- left[n:] -/
theorem Tg.rest (W : World) (g o m n : Nat) (h : n ≤ m) : ∃ o', (n < m → o' = o + n) ∧ (Instr.slice 36 (.slice (some ⟨g, o, none⟩) m m) (some (.int .i64 (n : Int))) none none).run Tryd.prog W = .ok (.slice (some ⟨g, o', none⟩) (m - n) (m - n)) W := by
  have ht : Tryd.prog.underlying 36 = some (.slice (Tryd.prog.elem 36)) := by simp [Program.elem, Tryd.underlying36]
  have he : Tryd.prog.elem 36 = 5 := by simp [Program.elem, Tryd.underlying36]
  refine ⟨if m = n then o else o + n, fun hl => by rw [if_neg (by omega)], ?_⟩
  rw [run_slice_l W 36 _ _ _ ht .i64 _ (by omega) (by omega), he, Tg.sizeU8]
  simp only [Result.andThen, sliced]
  by_cases h0 : m = n
  · subst h0; simp
  · by_cases h1 : n = 0
    · subst h1; simp [Addr.add, h0]
    · simp [Addr.add, h0, h1]
/-- copy(left[:n:n], text) -/
theorem Tg.copy (W : World) (g o m : Nat) (done : List UInt8) (R : List Value) (cur : Array Value) (t : ByteArray) (hg : W.heap[g]? = some (.cells cur 5 (0, 0))) (hc : cur.toList = Lib.byteCells done ++ R) (hR : R.length = m) (ho : 0 < m → o = done.length) (ht : t.size ≤ m) :
    ∃ (W' : World) (cur' : Array Value) (R' : List Value), (∀ ty, (Builtin.copy_ #[36, 9] ty #[.slice (some ⟨g, o, none⟩) t.size t.size, .string t]).run Tryd.prog W = .ok (.int .i64 (t.size : Int)) W') ∧ W'.heap[g]? = some (.cells cur' 5 (0, 0)) ∧
      cur'.toList = Lib.byteCells (done ++ t.data.toList) ++ R' ∧ R'.length = m - t.size ∧ ∀ B w0, Below B w0 W → B ≤ g → Below B w0 W' := by
  have hi : (Tryd.prog.info? 5).map (·.size) = some 1 := by
    obtain ⟨i0, hi, hz0, hz1, hz2⟩ := info_parts Tg.byteInfo
    rw [hi]; simp [hz1]
  have htl : t.data.toList.length = t.size := by simp
  by_cases h0 : t.size = 0
  · refine ⟨W, cur, R, fun ty => ?_, hg, ?_, by omega, fun B w0 hb _ => hb⟩
    · rw [h0]
      exact Lib.run_copy_empty_string W 36 9 ty 5 _ 0 0 t Tryd.underlying36 (by rw [Option.map_eq_some_iff] at hi; obtain ⟨a, ha, -⟩ := hi; rw [ha]; rfl) h0
    · rw [hc, List.eq_nil_of_length_eq_zero (by omega : t.data.toList.length = 0), List.append_nil]
  · have hm : 0 < m := by omega
    obtain rfl := ho hm
    have hcs : cur.size = done.length + m := by
      have := congrArg List.length hc
      rw [List.length_append, Lib.byteCells_length, hR] at this
      simpa using this
    refine ⟨_, _, R.drop t.size, fun ty => Lib.run_copy_row_string W 36 9 ty 5 g done.length t.size t.size t cur 5 Tryd.underlying36 hi hg (Nat.le_refl _) (by omega), setRow_heap W g _ _ 5 _ hg, ?_, by rw [List.length_drop, hR], fun B w0 hb hB => Go.below_setRow hb hB _⟩
    have e1 : List.take done.length cur.toList = Lib.byteCells done := by
      rw [hc, List.take_left' (Lib.byteCells_length done)]
    have e2 : List.drop (done.length + t.size) cur.toList = R.drop t.size := by
      rw [hc, ← List.drop_drop, List.drop_left' (Lib.byteCells_length done)]
    rw [List.toList_toArray, e1, e2, Lib.byteCells_append]

set_option maxHeartbeats 2000000 in
set_option maxRecDepth 100000 in
theorem together_any (ts : List ByteArray) (q c : Nat) (arr : Array Value) (T : TypeId) (w : World) (hq : w.heap[q]? = some (.cells arr T (0, 0))) (ha : ∀ i, i < ts.length → arr[i]? = some (.string (ts.getD i ByteArray.empty)))
    (hk : ts.length ≤ 100) (hS : (Tg.all ts).length ≤ 10000000) :
    Calls Tryd.prog 19 #[.slice (some ⟨q, 0, none⟩) ts.length c] w fun e w' => e = .returned (.string ⟨(Tg.all ts).toArray⟩) ∧ Below w.heap.size w w' := by
  obtain ⟨n, hn⟩ : ∃ n, n = ts.length := ⟨_, rfl⟩
  obtain ⟨S, hSz⟩ : ∃ S, S = (Tg.all ts).length := ⟨_, rfl⟩
  have HM : Hid (n = ts.length) := hn
  have HSZ : Hid (S = (Tg.all ts).length) := hSz
  have hqw : q < w.heap.size := blk_lt hq
  have HA : Hid (∀ W, Below w.heap.size w W → ∀ i, i < n → W.cell? ⟨q, i, none⟩ = some (.string (ts.getD i ByteArray.empty))) := fun W hb i hi => by
    have := (hb.block q hqw).trans hq
    rw [blk_cell this]
    exact ha i (by rw [← hn]; exact hi)
  have HT : Hid (∀ k, k < n → (Tg.all (ts.take (k + 1))).length = (Tg.all (ts.take k)).length + (ts.getD k ByteArray.empty).size) := fun k hk => by
    rw [Tg.take_all ts k (by rw [← hn]; exact hk), List.length_append]
    simp
  have HLE : Hid (∀ k, (Tg.all (ts.take k)).length ≤ S) := fun k => by rw [hSz]; exact Tg.take_le ts k
  rw [← hn] at hk ⊢
  rw [← hSz] at hS
  obtain ⟨M, hM, hmk⟩ := Tg.mk_run S (by omega)
  have HMK : Hid _ := And.intro hM hmk
  clear hq ha hn hSz hM hmk
  go_enter Tryd.func19, Tryd.ntmps19
  go_wp2_with fail
  go_loopw [3, 5, 13] (fun z _ i wr => ∃ k : Nat, i = .int .i64 (k : Int) ∧ k ≤ n ∧ Hid (z = .int .i64 (((Tg.all (ts.take k)).length : Nat) : Int)) ∧ Hid (Below w.heap.size w wr)) (fun _ _ i _ => n - (intOf i).toNat)
  case atStart => exact ⟨0, rfl, by omega, rfl, Below.refl _ _⟩
  case round =>
    obtain ⟨k, rfl, hk2, HZ, HB⟩ := hrel
    by_cases hlt : k < n
    · have d0 : decide ((k : Int) < (n : Int)) = true := decide_eq_true (by omega)
      have hk1 : (k : Int) < (n : Int) := by omega
      have c0 := HA.out _ HB.out k hlt
      have e1 := HT.out k hlt
      have e2 := HLE.out (k + 1)
      have HE : Hid ((((Tg.all (ts.take (k + 1))).length : Nat) : Int) = (((Tg.all (ts.take k)).length : Nat) : Int) + ((ts.getD k ByteArray.empty).size : Int)) := by show _ = _; omega
      have e3 : (Tg.all (ts.take k)).length + (ts.getD k ByteArray.empty).size ≤ 10000000 := by omega
      clear e1 e2
      generalize ts.getD k ByteArray.empty = t at *
      generalize (Tg.all (ts.take k)).length = z0 at *
      obtain rfl := HZ.out
      go_wp2_with fail
      go_roundw
      case rel => exact ⟨k + 1, by go_num, by omega, by show _ = _; rw [HE.out], HB.out⟩
      case measure => simp [intOf]; omega
    · have HKK : Hid (k = n) := (by omega : k = n)
      have d0 : decide ((k : Int) < (n : Int)) = false := decide_eq_false (by omega)
      rw [HKK.out, HM.out, List.take_length, ← HSZ.out] at HZ
      obtain rfl := HZ.out
      obtain ⟨g, hg⟩ : ∃ g, g = wr.heap.size := ⟨_, rfl⟩
      have HB0 : Hid (Below w.heap.size w (wr.alloc (.cells M 5))) := HB.out.alloc HB.out.size _
      have HG0 : Hid ((wr.alloc (.cells M 5)).heap[g]? = some (.cells M 5 (0, 0))) := by rw [hg]; exact heap_alloc_new wr (.cells M 5)
      have HBS : Hid (w.heap.size ≤ g) := by rw [hg]; exact HB.out.size
      have hmk := HMK.out.2 wr
      rw [← hg] at hmk
      clear HKK HB
      go_wp2_with fail
      clear hmk
      generalize wr.alloc (.cells M 5) = W0 at *
      rw [← hg]
      clear hg
      go_loopw [7, 9, 10, 27] (fun l _ _ i wr => ∃ (k o m : Nat) (cur : Array Value) (R : List Value), i = .int .i64 (k : Int) ∧ k ≤ n ∧ Hid (l = .slice (some ⟨g, o, none⟩) m m) ∧ Hid (wr.heap[g]? = some (.cells cur 5 (0, 0)) ∧ cur.toList = Lib.byteCells (Tg.all (ts.take k)) ++ R ∧ R.length = m ∧ m + (Tg.all (ts.take k)).length = S ∧ (0 < m → o = (Tg.all (ts.take k)).length)) ∧ Hid (Below w.heap.size w wr)) (fun _ _ _ i _ => n - (intOf i).toNat)
      case atStart => exact ⟨0, 0, S, M, M.toList, rfl, by omega, rfl, ⟨HG0.out, by simp [Tg.all, Lib.byteCells], by simp [HMK.out.1], by simp [Tg.all], fun _ => by simp [Tg.all]⟩, HB0.out⟩
      case round =>
        clear HB0 HG0
        obtain ⟨k, o, m, cur, R, rfl, hk2, HL, HC, HB⟩ := hrel
        by_cases hlt : k < n
        · have d0 : decide ((k : Int) < (n : Int)) = true := decide_eq_true (by omega)
          have hk1 : (k : Int) < (n : Int) := by omega
          have c0 := HA.out _ HB.out k hlt
          obtain ⟨C1, C2, C3, C4, C5⟩ := HC.out
          have e1 := HT.out k hlt
          have e2 := HLE.out (k + 1)
          have htm : (ts.getD k ByteArray.empty).size ≤ m := by omega
          obtain ⟨W', cur', R', k1, k2, k3, k4, k5⟩ := Tg.copy wr g o m _ R cur (ts.getD k ByteArray.empty) C1 C2 C3 C5 htm
          rw [← Tg.take_all ts k (by rw [← HM.out]; exact hlt)] at k3
          have HB' : Hid (Below w.heap.size w W') := k5 _ _ HB.out HBS.out
          have hcut := fun W => Tg.cut W ⟨g, o, none⟩ m _ htm
          obtain ⟨o', ho', hrest⟩ := Tg.rest W' g o m _ htm
          have HC' : Hid (W'.heap[g]? = some (.cells cur' 5 (0, 0)) ∧ cur'.toList = Lib.byteCells (Tg.all (ts.take (k + 1))) ++ R' ∧ R'.length = m - (ts.getD k ByteArray.empty).size ∧ m - (ts.getD k ByteArray.empty).size + (Tg.all (ts.take (k + 1))).length = S ∧ (0 < m - (ts.getD k ByteArray.empty).size → o' = (Tg.all (ts.take (k + 1))).length)) :=
            ⟨k2, k3, k4, by omega, fun hp => by rw [ho' (by omega), C5 (by omega), e1]⟩
          clear C1 C2 C3 C4 C5 e1 e2 k2 k3 k4 k5 ho' HC HB
          generalize ts.getD k ByteArray.empty = t at *
          obtain rfl := HL.out
          go_wp2_with fail
          go_roundw
          case rel => exact ⟨k + 1, o', _, cur', R', by go_num, by omega, rfl, HC'.out, HB'.out⟩
          case measure => simp [intOf]; omega
        · have HKK : Hid (k = n) := (by omega : k = n)
          have d0 : decide ((k : Int) < (n : Int)) = false := decide_eq_false (by omega)
          obtain ⟨C1, C2, C3, C4, C5⟩ := HC.out
          rw [HKK.out, HM.out, List.take_length, ← HSZ.out] at C4
          rw [HKK.out, HM.out, List.take_length] at C2
          have hR : R = [] := List.eq_nil_of_length_eq_zero (by omega)
          rw [hR, List.append_nil] at C2
          have hcs : cur.size = S := by
            have := congrArg List.length C2
            rw [Lib.byteCells_length, ← HSZ.out] at this
            simpa using this
          have HRow : World.ownsRow wr g 5 1 (.slice (some ⟨g, 0, none⟩) S S) S (Lib.byteCells (Tg.all ts)) := by
            refine ⟨by rw [Lib.byteCells_length, ← HSZ.out]; omega, .inr ⟨g, S, cur, rfl, Nat.le_refl _, C1, Nat.le_refl _, by unfold maxLen; omega, by rw [hcs]; omega, ?_⟩⟩
            rw [C2, Nat.mul_one]
            exact List.take_of_length_le (by rw [Lib.byteCells_length, ← HSZ.out]; exact Nat.le_refl _)
          have hstr : (convert 36 9 (.slice (some ⟨g, 0, none⟩) S S)).run Tryd.prog wr = .ok (.string ⟨(Tg.all ts).toArray⟩) wr := by
            have h := HRow
            rw [HSZ.out] at h ⊢
            exact Row.str (B := g) (bs := Tg.all ts) h
          clear C1 C2 C3 C4 C5 hR hcs HRow HC
          go_wp2_with fail
          go_ret
          exact ⟨rfl, HB.out⟩
end PartTgA
section PartPlainS
namespace Ps

/-- One step: half of it, down, turned by the word when it was odd. -/
def st (s : Nat) : Nat := if s % 2 = 1 then s / 2 ^^^ 3558460437 else s / 2
def stN : Nat → Nat → Nat
  | 0, s => s
  | k + 1, s => stN k (st s)

theorem st_xor (a b : Nat) : st (a ^^^ b) = st a ^^^ st b := by
  unfold st
  rw [Nat.xor_div_two]
  have hm := @Nat.xor_mod_two_eq_one a b
  by_cases ha : a % 2 = 1 <;> by_cases hb : b % 2 = 1
  · rw [if_neg (by rw [hm]; simp [ha, hb]), if_pos ha, if_pos hb]
    rw [Nat.xor_assoc, Nat.xor_comm 3558460437, Nat.xor_assoc, Nat.xor_self, Nat.xor_zero]
  · rw [if_pos (by rw [hm]; simp [ha, hb]), if_pos ha, if_neg hb]
    rw [Nat.xor_assoc, Nat.xor_comm (b / 2), ← Nat.xor_assoc]
  · rw [if_pos (by rw [hm]; simp [ha, hb]), if_neg ha, if_pos hb]
    rw [Nat.xor_assoc]
  · rw [if_neg (by rw [hm]; simp [ha, hb]), if_neg ha, if_neg hb]
theorem stN_xor (k a b : Nat) : stN k (a ^^^ b) = stN k a ^^^ stN k b := by
  induction k generalizing a b with
  | zero => rfl
  | succ k ih => simp only [stN, st_xor, ih]

theorem stN_high (k q : Nat) : stN k (q * 2 ^ k) = q := by
  induction k with
  | zero => simp [stN]
  | succ k ih =>
    have e : q * 2 ^ (k + 1) = 2 * (q * 2 ^ k) := by rw [Nat.pow_succ]; rw [← Nat.mul_assoc, Nat.mul_comm]
    have h : st (q * 2 ^ (k + 1)) = q * 2 ^ k := by
      unfold st
      rw [e, if_neg (by omega)]
      omega
    rw [stN, h, ih]
theorem split_xor (k s : Nat) : s = (s / 2 ^ k * 2 ^ k) ^^^ (s % 2 ^ k) := by
  apply Nat.eq_of_testBit_eq
  intro i
  rw [Nat.testBit_xor, Nat.testBit_mul_two_pow, Nat.testBit_mod_two_pow, Nat.testBit_div_two_pow]
  by_cases hi : i < k
  · have hk : ¬ k ≤ i := by omega
    simp [hi, hk]
  · simp [hi, Nat.le_of_not_lt hi]
/-- k steps by a table of what they make of the lowest k bits. -/
theorem stN_table (k s : Nat) : stN k s = s / 2 ^ k ^^^ stN k (s % 2 ^ k) := by
  conv => lhs; rw [split_xor k s]
  rw [stN_xor, stN_high]
theorem stN_add (j k s : Nat) : stN (j + k) s = stN k (stN j s) := by
  induction j generalizing s with
  | zero => rw [Nat.zero_add]; rfl
  | succ j ih => rw [Nat.succ_add, stN, ih]; rfl

theorem st_lt (s : Nat) (h : s < 4294967296) : st s < 4294967296 := by
  unfold st
  split
  · exact Nat.xor_lt_two_pow (n := 32) (by omega) (by omega)
  · omega
theorem stN_lt (k s : Nat) (h : s < 4294967296) : stN k s < 4294967296 := by
  induction k generalizing s with
  | zero => exact h
  | succ k ih => exact ih _ (st_lt s h)

/-- The sum of a byte more. -/
def sb (s : Nat) (b : UInt8) : Nat := stN 8 (s ^^^ b.toNat)
/-- The sum of more bytes. -/
def sm (s : Nat) (l : List UInt8) : Nat := l.foldl sb s
theorem sm_snoc (s : Nat) (l : List UInt8) (b : UInt8) : sm s (l ++ [b]) = sb (sm s l) b := by simp [sm]
theorem byte_lt (b : UInt8) : b.toNat < 4294967296 := by have := b.toNat_lt; omega
theorem sb_lt (s : Nat) (b : UInt8) (h : s < 4294967296) : sb s b < 4294967296 := stN_lt 8 _ (Nat.xor_lt_two_pow (n := 32) h (byte_lt b))
theorem sm_lt (s : Nat) (l : List UInt8) (h : s < 4294967296) : sm s l < 4294967296 := by
  induction l generalizing s with
  | nil => exact h
  | cons b l ih => exact ih _ (sb_lt s b h)
/-- A sum in four bytes, the highest first. -/
def four (x : Nat) : List UInt8 := [UInt8.ofNat (x / 16777216), UInt8.ofNat (x / 65536), UInt8.ofNat (x / 256), UInt8.ofNat x]
end Ps
end PartPlainS
end Go.Proofs.YtdkenmpdgadcpaaDoor
