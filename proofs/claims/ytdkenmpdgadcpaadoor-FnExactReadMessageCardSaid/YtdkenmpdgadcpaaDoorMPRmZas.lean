/- What the function of the four bytes of the specification answers. What SumMore and SumOf of the specification answer, at every sum and text. -/
import Derived.Test.YtdkenmpdgadcpaaDoorMPRmZar
import Derived.Test.YtdkenmpdgadcpaaDoorProg
import Derived.WalkKit
import Derived.WalkSpells
import Derived.WalkLawsBesides
import Derived.Handy
import Derived.Laws.BitsAllLaws
namespace Go.Proofs.YtdkenmpdgadcpaaDoor
section PartSpFour
open Go.RowKit

set_option maxHeartbeats 400000 in
theorem four_any (x : Nat) (w : World) (hx : x < 4294967296) :
    Calls Tryd.prog 29 #[.int .u32 (x : Int)] w fun e w' => e = .returned (.string ⟨(Ps.four x).toArray⟩) ∧ Below w.heap.size w w' := by
  have hst := four_str (w.alloc (.cells #[.int .u8 ((x : Int) / 16777216), .int .u8 ((x : Int) / 65536 % 256), .int .u8 ((x : Int) / 256 % 256), .int .u8 ((x : Int) % 256)] 5)) w.heap.size x 5 hx (heap_new _ _)
  go_enter Tryd.func29, Tryd.ntmps29
  go_wp2
  go_ret
  exact ⟨rfl, (Below.refl _ _).alloc (Nat.le_refl _) _⟩
end PartSpFour
section PartSpSum
open Go.RowKit

set_option maxHeartbeats 800000 in
set_option maxRecDepth 100000 in
theorem specSumMore_any (n : Nat) (s : ByteArray) (w : World) (hn : n < 4294967296) (hs : s.size ≤ 1048576) :
    Calls Tryd.prog 39 #[.int .u32 (n : Int), .string s] w fun e w' => e = .returned (.int .u32 ((Ps.sm n s.data.toList : Nat) : Int)) ∧ w' = w := by
  go_enter Tryd.func39, Tryd.ntmps39
  go_wp2
  go_loop [0, 5] (fun v i => ∃ (k m : Nat), i = .int .i64 (k : Int) ∧ v = .int .u32 (m : Int) ∧ k ≤ s.size ∧ m < 4294967296 ∧ Hid (m = Ps.sm n (s.data.toList.take k))) (fun _ i => s.size - (intOf i).toNat)
  case atStart => exact ⟨0, n, rfl, rfl, by omega, hn, rfl⟩
  case round =>
    obtain ⟨k, m, rfl, rfl, hk, hm, HM⟩ := hrel
    by_cases hlt : k < s.size
    · have h256 : s[k].toNat < 256 := s[k].toNat_lt
      obtain ⟨x, hx⟩ : ∃ x, x = m ^^^ s[k].toNat := ⟨_, rfl⟩
      have hxl : x < 4294967296 := by rw [hx]; exact Nat.xor_lt_two_pow (n := 32) hm (by omega)
      have hxb : bits .xor .u32 (m : Int) (s[k].toNat : Int) = (x : Int) := by rw [hx]; exact u32_xor_nat _ _ hm (by omega)
      have HX : Hid (x = m ^^^ s[k].toNat) := hx
      clear hx
      go_wp2
      go_loop [0, 6] (fun v j => ∃ (q y : Nat), j = .int .i64 (q : Int) ∧ v = .int .u32 (y : Int) ∧ q ≤ 8 ∧ y < 4294967296 ∧ Hid (y = Ps.stN q x)) (fun _ j => 8 - (intOf j).toNat)
      case atStart => exact ⟨0, x, rfl, rfl, by omega, hxl, rfl⟩
      case round =>
        obtain ⟨q, y, rfl, rfl, hq, hy, HY⟩ := hrel
        by_cases hq8 : q < 8
        · by_cases hodd : y % 2 = 1
          · obtain ⟨z, hz⟩ : ∃ z, z = y / 2 ^^^ 3558460437 := ⟨_, rfl⟩
            have hzb : bits .xor .u32 ((y : Int) / 2) 3558460437 = (z : Int) := by rw [hz]; exact u32_xor_nat (y / 2) 3558460437 (by omega) (by decide)
            have hzl : z < 4294967296 := by rw [hz]; exact Nat.xor_lt_two_pow (n := 32) (by omega) (by decide)
            have HZ : Hid (z = Ps.stN (q + 1) x) := by show _ = _; rw [← Ps.stN_snoc, ← HY.out, Ps.st_odd y hodd]; exact hz
            clear hz
            go_wp2
            exact ⟨⟨q + 1, z, by go_num, rfl, by omega, hzl, HZ.out⟩, by simp [intOf]; omega⟩
          · have HZ : Hid (y / 2 = Ps.stN (q + 1) x) := by show _ = _; rw [← Ps.stN_snoc, ← HY.out, Ps.st_even y (by omega)]
            go_wp2
            exact ⟨⟨q + 1, y / 2, by go_num, by go_num, by omega, by omega, HZ.out⟩, by simp [intOf]; omega⟩
        · have hy8 : q = 8 := by omega
          have HN : Hid (y = Ps.sm n (s.data.toList.take (k + 1))) := by
            show _ = _
            rw [Ps.take_snoc s k hlt, Ps.sm_snoc, ← HM.out, HY.out, hy8, HX.out]
            rfl
          clear hy8
          go_wp2
          exact ⟨⟨k + 1, y, by go_num, rfl, by omega, hy, HN.out⟩, by simp [intOf]; omega⟩
    · go_wp2
      go_ret
      exact ⟨by rw [HM.out, Ps.take_all s k (by omega)]; rfl, rfl⟩

set_option maxHeartbeats 400000 in
theorem specSumOf_any (s : ByteArray) (w : World) (hs : s.size ≤ 1048576) :
    Calls Tryd.prog 30 #[.string s] w fun e w' => e = .returned (.int .u32 ((Ps.sm 4294967295 s.data.toList : Nat) : Int)) ∧ w' = w := by
  go_enter Tryd.func30, Tryd.ntmps30
  go_wp2_with (go_at_call 39; refine (specSumMore_any 4294967295 s _ (by decide) hs).mono ?_; rintro e w' ⟨rfl, rfl⟩)
  go_ret
  exact ⟨rfl, rfl⟩
end PartSpSum
end Go.Proofs.YtdkenmpdgadcpaaDoor
