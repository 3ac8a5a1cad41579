/- What Sealed of the program answers, at every text. -/
import Derived.Test.YtbfnpdklnbpgjaaDoorSealK
import Derived.Test.YtbfnpdklnbpgjaaDoorImSum
namespace Go.Proofs.YtbfnpdklnbpgjaaDoor
open Go.RowKit

set_option maxHeartbeats 400000 in
theorem inBytes_any (x : Nat) (w : World) (hx : x < 4294967296) :
    Calls Tryd.prog 32 #[.int .u32 (x : Int)] w fun e w' => e = .returned (.agg #[.int .u8 ((x : Int) / 16777216), .int .u8 ((x : Int) / 65536 % 256), .int .u8 ((x : Int) / 256 % 256), .int .u8 ((x : Int) % 256)]) ∧ Below w.heap.size w w' := by
  go_enter Tryd.func32, Tryd.ntmps32
  go_wp2
  refine bodyPost_ret (v := .agg #[.int .u8 ((x : Int) / 16777216), .int .u8 ((x : Int) / 65536 % 256), .int .u8 ((x : Int) / 256 % 256), .int .u8 ((x : Int) % 256)]) (by simp [results, Tryd.results32, go_sem]) rfl ⟨rfl, (Below.refl _ _).alloc (Nat.le_refl _) _⟩

set_option maxHeartbeats 400000 in
theorem implSealed_any (s : ByteArray) (w : World) (hs : s.size ≤ 1048576) (ht : Tabd w) :
    Calls Tryd.prog 18 #[.string s] w fun e w' => e = .returned (sealRes s) ∧ Below w.heap.size w w' := by
  by_cases h : 20000 < s.size
  · rw [sealRes_no s h]
    clear ht
    go_enter Tryd.func18, Tryd.ntmps18
    go_wp2
    go_ret2
    exact ⟨rfl, Below.refl _ _⟩
  · rw [sealRes_yes s (by omega)]
    obtain ⟨x, hx⟩ : ∃ x, x = Ps.sm 4294967295 s.data.toList := ⟨_, rfl⟩
    have hxl : x < 4294967296 := by rw [hx]; exact Ps.sum_lt s
    have C1 : Hid (Calls Tryd.prog 21 #[.string s] w fun e w' => e = .returned (.int .u32 (x : Int)) ∧ w' = w) := by rw [hx]; exact implSumOf_any s w hs ht
    rw [← hx]
    clear hx ht
    have hfl : (Ps.four x).length = 4 := rfl
    have hst : ∀ W : World, (convert 22 9 (.slice (some ⟨W.heap.size, 0, none⟩) 4 4)).run Tryd.prog (W.alloc (.cells #[.int .u8 ((x : Int) / 16777216), .int .u8 ((x : Int) / 65536 % 256), .int .u8 ((x : Int) / 256 % 256), .int .u8 ((x : Int) % 256)] 51)) = .ok (.string ⟨(Ps.four x).toArray⟩) (W.alloc (.cells #[.int .u8 ((x : Int) / 16777216), .int .u8 ((x : Int) / 65536 % 256), .int .u8 ((x : Int) / 256 % 256), .int .u8 ((x : Int) % 256)] 51)) := fun W => four_str _ _ x 51 hxl (heap_new _ _)
    go_enter Tryd.func18, Tryd.ntmps18
    go_wp2_with (first | (go_at_call 21; refine (C1.out).mono ?_; rintro e w' ⟨rfl, rfl⟩) | (go_at_call 32; refine (inBytes_any x _ hxl).mono ?_; rintro e w' ⟨rfl, hb⟩))
    go_ret2
    exact ⟨by rw [← Ps.app_str]; rfl, hb.alloc hb.size _⟩
end Go.Proofs.YtbfnpdklnbpgjaaDoor
