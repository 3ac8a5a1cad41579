/- What SumMore and SumOf of the program answer, at every sum and text, wherever its table is as its text lays it. What Sealed of the program answers, at every text. -/
import Derived.Test.YtdkenmpdgadcpaaDoorProg
import Derived.Test.YtdkenmpdgadcpaaDoorMPRmZar
import Derived.WalkKit
import Derived.WalkSpells
import Derived.WalkLawsBesides
import Derived.Handy
import Derived.Laws.BitsAllLaws
import Derived.Lib.LaidTab
namespace Go.Proofs.YtdkenmpdgadcpaaDoor
section PartImSum
open Go.RowKit

def Ps.tab : List Int := [0, 1166650509, 2333301018, 3466261911, 3189058079, 4221339282, 889615109, 1888477064, 3558460437, 2442158232, 1594529039, 444807554, 1779230218, 797264519, 3776954128, 2761298845]

theorem Ps.tab_at : ∀ i, i < 16 → Ps.tab.getD i 0 = ((Ps.stN 4 i : Nat) : Int) := by decide

theorem Ps.half (x : Nat) : x / 16 ^^^ Ps.stN 4 (x % 16) = Ps.stN 4 x := (Ps.stN_table 4 x).symm

theorem gFour : Tryd.prog.globalNamed "loop.example/g00237/impl.fourHalvings" = some 0 := by kernel_rfl

/-- The table is as the program's text lays it. -/
abbrev Tabd (w : World) : Prop := Lib.TabIs Tryd.prog w "loop.example/g00237/impl.fourHalvings" .u32 Ps.tab

theorem Tabd.at {w : World} (h : Tabd w) (i : Nat) (hi : i < 16) : w.cell? ⟨0, i, none⟩ = some (.int .u32 ((Ps.stN 4 i : Nat) : Int)) := by
  rw [← Ps.tab_at i hi]
  exact Lib.TabIs.cell h gFour i hi

theorem Tabd.lt {w : World} (h : Tabd w) : 0 < w.heap.size := World.block_lt_of_cell? w _ (h.at 0 (by decide))

theorem Tabd.keep {w w' : World} (h : Tabd w) (hb : Below w.heap.size w w') : Tabd w' := by
  have hlt := h.lt
  unfold Tabd Lib.TabIs World.var? at *
  simp only [gFour, Option.bind_some] at h ⊢
  rw [hb.block _ hlt]
  exact h

set_option maxHeartbeats 800000 in
set_option maxRecDepth 100000 in
theorem more_any (n : Nat) (s : ByteArray) (w : World) (hn : n < 4294967296) (hs : s.size ≤ 1048576) (ht : Tabd w) :
    Calls Tryd.prog 44 #[.int .u32 (n : Int), .string s] w fun e w' => e = .returned (.int .u32 ((Ps.sm n s.data.toList : Nat) : Int)) ∧ w' = w := by
  have HT : Hid (Tabd w) := ht
  clear ht
  go_enter Tryd.func44, Tryd.ntmps44
  go_wp2
  go_loop [0, 5] (fun v i => ∃ (k m : Nat), i = .int .i64 (k : Int) ∧ v = .int .u32 (m : Int) ∧ k ≤ s.size ∧ m < 4294967296 ∧ Hid (m = Ps.sm n (s.data.toList.take k))) (fun _ i => s.size - (intOf i).toNat)
  case atStart => exact ⟨0, n, rfl, rfl, by omega, hn, rfl⟩
  case round =>
    obtain ⟨k, m, rfl, rfl, hk, hm, HM⟩ := hrel
    by_cases hlt : k < s.size
    · have h256 : s[k].toNat < 256 := s[k].toNat_lt
      obtain ⟨x, hx⟩ : ∃ x, x = m ^^^ s[k].toNat := ⟨_, rfl⟩
      have hxl : x < 4294967296 := by rw [hx]; exact Nat.xor_lt_two_pow (n := 32) hm (by omega)
      have hxb : bits .xor .u32 (m : Int) (s[k].toNat : Int) = (x : Int) := by rw [hx]; exact u32_xor_nat _ _ hm (by omega)
      have HX : Hid (x = m ^^^ s[k].toNat) := hx
      clear hx
      obtain ⟨y, hy⟩ : ∃ y, y = Ps.stN 4 x := ⟨_, rfl⟩
      obtain ⟨z, hz⟩ : ∃ z, z = Ps.stN 4 y := ⟨_, rfl⟩
      obtain ⟨p, hp⟩ : ∃ p, p = Ps.stN 4 (x % 16) := ⟨_, rfl⟩
      obtain ⟨q, hq⟩ : ∃ q, q = Ps.stN 4 (y % 16) := ⟨_, rfl⟩
      have hyl : y < 4294967296 := by rw [hy]; exact Ps.stN_lt 4 x hxl
      have hzl : z < 4294967296 := by rw [hz]; exact Ps.stN_lt 4 y hyl
      have hpl : p < 4294967296 := by rw [hp]; exact Ps.stN_lt 4 _ (by omega)
      have hql : q < 4294967296 := by rw [hq]; exact Ps.stN_lt 4 _ (by omega)
      have hyb : bits .xor .u32 ((x : Int) / 16) (p : Int) = (y : Int) := by rw [hy, ← Ps.half x, ← hp]; exact u32_xor_nat (x / 16) p (by omega) hpl
      have hzb : bits .xor .u32 ((y : Int) / 16) (q : Int) = (z : Int) := by rw [hz, ← Ps.half y, ← hq]; exact u32_xor_nat (y / 16) q (by omega) hql
      have hc1 : w.cell? ⟨0, x % 16, none⟩ = some (.int .u32 (p : Int)) := by rw [hp]; exact HT.out.at _ (by omega)
      have hc2 : w.cell? ⟨0, y % 16, none⟩ = some (.int .u32 (q : Int)) := by rw [hq]; exact HT.out.at _ (by omega)
      have HZ : Hid (z = Ps.sm n (s.data.toList.take (k + 1))) := by
        show _ = _
        rw [Ps.take_snoc s k hlt, Ps.sm_snoc, ← HM.out, hz, hy, HX.out, ← Ps.stN_add]
        rfl
      clear hy hz hp hq
      go_wp2
      exact ⟨⟨k + 1, z, by go_num, rfl, by omega, hzl, HZ.out⟩, by simp [intOf]; omega⟩
    · go_wp2
      go_ret
      exact ⟨by rw [HM.out, Ps.take_all s k (by omega)]; rfl, rfl⟩

set_option maxHeartbeats 400000 in
theorem implSumMore_any (n : Nat) (s : ByteArray) (w : World) (hn : n < 4294967296) (hs : s.size ≤ 1048576) (ht : Tabd w) :
    Calls Tryd.prog 41 #[.int .u32 (n : Int), .string s] w fun e w' => e = .returned (.int .u32 ((Ps.sm n s.data.toList : Nat) : Int)) ∧ w' = w := by
  have HT : Hid (Tabd w) := ht
  clear ht
  go_enter Tryd.func41, Tryd.ntmps41
  go_wp2_with (go_at_call 44; refine (more_any n s _ hn hs HT.out).mono ?_; rintro e w' ⟨rfl, rfl⟩)
  go_ret
  exact ⟨rfl, rfl⟩

set_option maxHeartbeats 400000 in
theorem implSumOf_any (s : ByteArray) (w : World) (hs : s.size ≤ 1048576) (ht : Tabd w) :
    Calls Tryd.prog 34 #[.string s] w fun e w' => e = .returned (.int .u32 ((Ps.sm 4294967295 s.data.toList : Nat) : Int)) ∧ w' = w := by
  have HT : Hid (Tabd w) := ht
  clear ht
  go_enter Tryd.func34, Tryd.ntmps34
  go_wp2_with (go_at_call 41; refine (implSumMore_any 4294967295 s _ (by decide) hs HT.out).mono ?_; rintro e w' ⟨rfl, rfl⟩)
  go_ret
  exact ⟨rfl, rfl⟩
end PartImSum
section PartImSeal
open Go.RowKit

set_option maxHeartbeats 400000 in
theorem inBytes_any (x : Nat) (w : World) (hx : x < 4294967296) :
    Calls Tryd.prog 35 #[.int .u32 (x : Int)] w fun e w' => e = .returned (.agg #[.int .u8 ((x : Int) / 16777216), .int .u8 ((x : Int) / 65536 % 256), .int .u8 ((x : Int) / 256 % 256), .int .u8 ((x : Int) % 256)]) ∧ Below w.heap.size w w' := by
  go_enter Tryd.func35, Tryd.ntmps35
  go_wp2
  refine bodyPost_ret (v := .agg #[.int .u8 ((x : Int) / 16777216), .int .u8 ((x : Int) / 65536 % 256), .int .u8 ((x : Int) / 256 % 256), .int .u8 ((x : Int) % 256)]) (by simp [results, Tryd.results35, go_sem]) rfl ⟨rfl, (Below.refl _ _).alloc (Nat.le_refl _) _⟩

set_option maxHeartbeats 400000 in
theorem implSealed_any (s : ByteArray) (w : World) (hs : s.size ≤ 1048576) (ht : Tabd w) :
    Calls Tryd.prog 18 #[.string s] w fun e w' => e = .returned (sealRes s) ∧ Below w.heap.size w w' := by
  by_cases h : 20000 < s.size
  · rw [sealRes_no s h]
    clear ht
    go_enter Tryd.func18, Tryd.ntmps18
    go_wp2
    go_ret2
    exact ⟨rfl, Below.refl _ _⟩
  · rw [sealRes_yes s (by omega)]
    obtain ⟨x, hx⟩ : ∃ x, x = Ps.sm 4294967295 s.data.toList := ⟨_, rfl⟩
    have hxl : x < 4294967296 := by rw [hx]; exact Ps.sum_lt s
    have C1 : Hid (Calls Tryd.prog 34 #[.string s] w fun e w' => e = .returned (.int .u32 (x : Int)) ∧ w' = w) := by rw [hx]; exact implSumOf_any s w hs ht
    rw [← hx]
    clear hx ht
    have hfl : (Ps.four x).length = 4 := rfl
    have hst : ∀ W : World, (convert 36 9 (.slice (some ⟨W.heap.size, 0, none⟩) 4 4)).run Tryd.prog (W.alloc (.cells #[.int .u8 ((x : Int) / 16777216), .int .u8 ((x : Int) / 65536 % 256), .int .u8 ((x : Int) / 256 % 256), .int .u8 ((x : Int) % 256)] 67)) = .ok (.string ⟨(Ps.four x).toArray⟩) (W.alloc (.cells #[.int .u8 ((x : Int) / 16777216), .int .u8 ((x : Int) / 65536 % 256), .int .u8 ((x : Int) / 256 % 256), .int .u8 ((x : Int) % 256)] 67)) := fun W => four_str _ _ x 67 hxl (heap_new _ _)
    go_enter Tryd.func18, Tryd.ntmps18
    go_wp2_with (first | (go_at_call 34; refine (C1.out).mono ?_; rintro e w' ⟨rfl, rfl⟩) | (go_at_call 35; refine (inBytes_any x _ hxl).mono ?_; rintro e w' ⟨rfl, hb⟩))
    go_ret2
    exact ⟨by rw [← Ps.app_str]; rfl, hb.alloc hb.size _⟩
end PartImSeal
end Go.Proofs.YtdkenmpdgadcpaaDoor
