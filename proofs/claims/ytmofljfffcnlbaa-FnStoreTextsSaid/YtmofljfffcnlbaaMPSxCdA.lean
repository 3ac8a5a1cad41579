/- The specification of CodeOk: names; what an instruction takes and puts; its arg. -/
import Derived.Test.YtmofljfffcnlbaaMPSxZad
import Derived.Test.YtmofljfffcnlbaaMPSxZao
import Derived.Test.YtmofljfffcnlbaaMPSxZaq
namespace Go.Proofs.Ytmofljfffcnlbaa
open Go.RowKit

namespace Cd
theorem nm_no {s : ByteArray} {j : Nat} (h : j < s.size) (hl : Tk.letter s[j] = false) : nm s.data.toList = false := by
  unfold nm
  have : s.data.toList.all Tk.letter = false := by
    rw [List.all_eq_false]
    refine ⟨s[j], ?_, by rw [hl]; simp⟩
    have := lst_at s j h
    rw [← this]
    exact List.getElem_mem _
  rw [this]
  rfl
theorem nm_yes {s : ByteArray} (h : ∀ j, ∀ h : j < s.size, Tk.letter s[j] = true) : nm s.data.toList = decide ((1 : Int) ≤ (s.size : Int) ∧ (s.size : Int) ≤ 8) := by
  unfold nm
  have h2 : s.data.toList.all Tk.letter = true := by
    rw [List.all_eq_true]
    intro b hb
    obtain ⟨i, hi, e⟩ := List.mem_iff_getElem.1 hb
    have hi2 : i < s.size := by simpa using hi
    have := lst_at s i hi2
    rw [← e, this]
    exact h i hi2
  have hsl : s.data.toList.length = s.size := by simp
  rw [h2, hsl, Bool.true_and, decide_eq_decide]
  omega
end Cd

set_option maxHeartbeats 2000000 in
set_option maxRecDepth 100000 in
theorem spNm (s : ByteArray) (w : World) (hs : s.size ≤ 1048576) :
    Calls Try.prog 27 #[.string s] w fun e w' => e = .returned (.bool (Cd.nm s.data.toList)) ∧ w' = w := by
  obtain ⟨V, hV⟩ : ∃ V, V = Cd.nm s.data.toList := ⟨_, rfl⟩
  rw [← hV]
  have HV : Hid (V = Cd.nm s.data.toList) := hV
  clear hV
  go_enter Try.func27, Try.ntmps27
  go_wp2
  go_loop [3] (fun i => ∃ j : Nat, i = .int .i64 (j : Int) ∧ j ≤ s.size ∧ Hid (∀ k, k < j → ∀ h : k < s.size, Tk.letter s[k] = true)) (fun i => s.size - (intOf i).toNat)
  case atStart => exact ⟨0, rfl, by omega, fun k hk => by omega⟩
  case round =>
    obtain ⟨j, rfl, hj, HJ⟩ := hrel
    by_cases hlt : j < s.size
    · have hi : (j : Int) < (s.size : Int) := by omega
      have d0 : decide ((j : Int) < (s.size : Int)) = true := decide_eq_true hi
      by_cases hl : Tk.letter s[j] = true
      · have CJ : Hid (∀ w, Calls Try.prog 47 #[.int .u8 (s[j].toNat : Int)] w fun e w' => e = .returned (.bool true) ∧ w' = w) := by
          intro w
          have := spLetter s[j] w
          rwa [hl] at this
        have HN : Hid (∀ k, k < j + 1 → ∀ h : k < s.size, Tk.letter s[k] = true) := by
          intro k hk h
          by_cases e : k = j
          · subst e; exact hl
          · exact HJ.out k (by omega) h
        clear HJ hl HV
        go_wp2_with (go_at_call 47; refine (CJ.out _).mono ?_; rintro e w2 ⟨rfl, rfl⟩)
        go_round
        case rel => exact ⟨j + 1, by go_num, by omega, HN.out⟩
        case measure => simp [intOf]; omega
      · have hl2 : Tk.letter s[j] = false := by simpa using hl
        have CJ : Hid (∀ w, Calls Try.prog 47 #[.int .u8 (s[j].toNat : Int)] w fun e w' => e = .returned (.bool false) ∧ w' = w) := by
          intro w
          have := spLetter s[j] w
          rwa [hl2] at this
        have HF : Hid (V = false) := by show _ = _; rw [HV.out]; exact Cd.nm_no hlt hl2
        clear HJ hl hl2 HV
        go_wp2_with (go_at_call 47; refine (CJ.out _).mono ?_; rintro e w2 ⟨rfl, rfl⟩)
        go_ret
        exact ⟨by rw [HF.out]; rfl, rfl⟩
    · obtain rfl : j = s.size := by omega
      have CI : Hid (∀ w, Calls Try.prog 48 #[.int .i64 (s.size : Int), .int .i64 1, .int .i64 8] w fun e w' => e = .returned (.bool V) ∧ w' = w) := by
        intro w
        have := sIn_any (s.size : Int) 1 8 w
        rw [HV.out, Cd.nm_yes (fun j h => HJ.out j h h)]
        exact this
      clear HJ HV
      go_wp2_with (go_at_call 48; refine (CI.out _).mono ?_; rintro e w2 ⟨rfl, rfl⟩)
      go_ret
      exact ⟨rfl, rfl⟩

theorem InsAt.cell {w : World} {ad : Option Addr} {n cap : Nat} {xs : List Ins} (h : InsAt w (.slice ad n cap) xs) (hn : n = xs.length) {j : Nat} (hj : j < n) : ∃ b o, ad = some ⟨b, o, none⟩ ∧ b < w.heap.size ∧ w.cell? ⟨b, o + j * 2, none⟩ = some (.int .i64 (xs.getD j Ins.no).op) ∧ w.cell? ⟨b, o + j * 2 + 1, none⟩ = some (.int .i64 (xs.getD j Ins.no).arg) := by
  subst hn
  obtain ⟨a, c, e, f⟩ := h
  simp only [Value.slice.injEq] at e
  obtain ⟨rfl, -, -⟩ := e
  obtain ⟨b, o, rfl, hb, hc⟩ := f (by omega)
  exact ⟨b, o, rfl, hb, hc j hj⟩

theorem TsAt.cell {w : World} {ad : Option Addr} {n cap : Nat} {ts : List ByteArray} (h : TsAt w (.slice ad n cap) ts) (hn : n = ts.length) {j : Nat} (hj : j < n) : ∃ b o, ad = some ⟨b, o, none⟩ ∧ w.cell? ⟨b, o + j, none⟩ = some (.string (ts.getD j ByteArray.empty)) := by
  subst hn
  obtain ⟨a, c, e, f⟩ := h
  simp only [Value.slice.injEq] at e
  obtain ⟨rfl, -, -⟩ := e
  obtain ⟨b, o, rfl, _, hc⟩ := f (by omega)
  exact ⟨b, o, rfl, hc j hj⟩

end Go.Proofs.Ytmofljfffcnlbaa
