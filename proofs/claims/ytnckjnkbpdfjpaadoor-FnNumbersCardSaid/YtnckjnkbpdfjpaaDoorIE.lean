/- What valuesOf answers: the worth of each figure, in memory of its own, or none. -/
import Derived.Test.YtnckjnkbpdfjpaaDoorKitM
import Derived.Test.YtnckjnkbpdfjpaaDoorPlainD
import Derived.BigQuiet
import Derived.Deep.QuietTactic
import Derived.Deep.LoopGhost
namespace Go.Proofs.YtnckjnkbpdfjpaaDoor
open Go.RowKit

set_option maxHeartbeats 800000 in
set_option maxRecDepth 100000 in
theorem valuesOf_any (s f : ByteArray) (w : World) (hs : s.size ≤ 1048576) (hf : f.size ≤ 16) :
    Calls Tryd.prog 17 #[.string s, .string f] w fun e w' => Below w.heap.size w w' ∧
      ((∃ vs v, Pl.vals f.data.toList [] s.data.toList = some vs ∧ e = .returned (.tuple #[v, .bool true]) ∧ Row w.heap.size w' v vs) ∨
        (Pl.vals f.data.toList [] s.data.toList = none ∧ e = .returned (.tuple #[.slice none 0 0, .bool false]))) := by
  obtain ⟨M, hMs, hmk⟩ := make_run s.size (by omega)
  go_enter Tryd.func17, Tryd.ntmps17
  go_wp2
  go_step3
  go_wp2
  go_step3
  go_wp2
  clear hmk
  go_loopg [6, 7] s.size (fun g v i wr => ∃ (k : Nat) (vs : List UInt8), i = .int .i64 k ∧ k + g = s.size ∧ vs.length ≤ k ∧ Row w.heap.size wr v vs ∧ Below w.heap.size w wr ∧ Aside (Pl.vals f.data.toList vs (s.data.toList.drop k) = Pl.vals f.data.toList [] s.data.toList))
  case atStart => exact ⟨0, [], rfl, by omega, Nat.le_refl _, Row.made w M _ (Nat.le_refl _) (by unfold maxLen; omega) hMs, (Below.refl _ _).alloc (Nat.le_refl _) _, rfl⟩
  case round =>
    obtain ⟨k, vs, rfl, hkg, hvl, hrow, hbel, HV⟩ := hrel
    have hsz := hbel.size
    by_cases hlt : k < s.size
    · have h256 : s[k].toNat < 256 := s[k].toNat_lt
      have hki : (k : Int) < (s.size : Int) := by omega
      have hix : ∀ wx, (Instr.index 9 (.string s) (.int .i64 (k : Int))).run Tryd.prog wx = .ok (.int .u8 (s[k].toNat : Int)) wx := by
        intro wx
        rw [run_index_string wx 9 s .i64 (k : Int) Tryd.underlying9, dif_pos (by omega)]
        rfl
      go_wp2
      go_loopg [6, 8] f.size (fun g v j wx => ∃ m : Nat, j = .int .i64 m ∧ m + g = f.size ∧ Row w.heap.size wx v vs ∧ Below w.heap.size w wx ∧ Aside (∀ i (hi : i < f.size), i < m → s[k] ≠ f[i]))
      case atStart => exact ⟨0, rfl, by omega, hrow, hbel, fun i _ hi => by omega⟩
      case round =>
        clear hrow hbel
        obtain ⟨m, rfl, hmg, hrow, hbel, HF⟩ := hrel
        have hsz := hbel.size
        by_cases hmf : m < f.size
        · have hmi : (m : Int) < (f.size : Int) := by omega
          have f256 : f[m].toNat < 256 := f[m].toNat_lt
          have hjx : ∀ wx, (Instr.index 9 (.string f) (.int .i64 (m : Int))).run Tryd.prog wx = .ok (.int .u8 (f[m].toNat : Int)) wx := by
            intro wx
            rw [run_index_string wx 9 f .i64 (m : Int) Tryd.underlying9, dif_pos (by omega)]
            rfl
          by_cases heq : s[k] = f[m]
          · have HH : Aside (Pl.vals f.data.toList (vs ++ [UInt8.ofNat m]) (s.data.toList.drop (k + 1)) = Pl.vals f.data.toList [] s.data.toList) := by
              show _ = _
              rw [← HV.out, Pl.drop_at s k hlt, Pl.vals_hit _ _ _ _ m (Pl.fnd_hit f s[k] m hmf heq HF.out)]
            have hb : ((s[k].toNat : Int) == (f[m].toNat : Int)) = true := by rw [heq]; simp
            clear heq
            go_wp2_with fail
            go_quiet (fail)
            have hrow2 : Row w.heap.size (wr.drewN nq) u6 vs := hrow
            have hbel2 : Below w.heap.size w (wr.drewN nq) := below_drewN hbel nq
            go_wp2_with (at_builtin; go_must (refine hrow2.push rfl (.tmp 31) (.tmp 34) rfl rfl _ (UInt8.ofNat m) ?hz rfl ?hl ?hb ?_))
            case hz => have := Pl.small m (by omega); omega
            case hl => omega
            case hb => exact hbel2.size
            · intro v' w1 hrow' hbel'
              go_wp2
              go_roundg (s.size - (k + 1))
              case measure => omega
              case rel => exact ⟨k + 1, _, by go_num, by omega, by simp; omega, hrow', hbel2.trans hbel', HH.out⟩
          · have HN : Aside (∀ i (hi : i < f.size), i < m + 1 → s[k] ≠ f[i]) := by
              intro i hi him
              by_cases e : i = m
              · subst e; exact heq
              · exact HF.out i hi (by omega)
            have hb : ((s[k].toNat : Int) == (f[m].toNat : Int)) = false := by
              simp only [beq_eq_false_iff_ne, ne_eq]
              intro e
              exact heq (UInt8.toNat_inj.1 (by omega))
            clear heq
            go_wp2_with fail
            go_quiet (fail)
            go_wp2
            go_roundg (gk - 1)
            case measure => omega
            case rel => exact ⟨m + 1, by go_num, by omega, hrow, below_drewN hbel _, HN.out⟩
        · have HM : Aside (Pl.vals f.data.toList [] s.data.toList = none) := by
            show _ = _
            rw [← HV.out, Pl.drop_at s k hlt, Pl.vals_miss _ _ _ _ (Pl.fnd_miss f s[k] (fun i hi => HF.out i hi (by omega)))]
          go_wp2
          rw [Exit.noGoto_ret]
          go_ret2
          exact ⟨hbel, .inr ⟨HM.out, rfl⟩⟩
    · have HS : Aside (Pl.vals f.data.toList [] s.data.toList = some vs) := by
        show _ = _
        rw [← HV.out, Pl.drop_out s k (by omega)]
        rfl
      go_wp2
      rw [Exit.noGoto_ret]
      go_ret2
      exact ⟨hbel, .inl ⟨vs, _, HS.out, rfl, hrow⟩⟩

end Go.Proofs.YtnckjnkbpdfjpaaDoor
