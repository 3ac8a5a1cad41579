/- The specification of CodeOk: names; what an instruction takes and puts; its arg. -/
import Derived.Test.YtdkenmpdgadcpaaDoorMPRmZaf
import Derived.Test.YtdkenmpdgadcpaaDoorMPRmZai
import Derived.Test.YtdkenmpdgadcpaaDoorMPRmPgD
namespace Go.Proofs.YtdkenmpdgadcpaaDoor
open Go.RowKit

namespace Cd
end Cd

theorem InsAt.cell {w : World} {ad : Option Addr} {n cap : Nat} {xs : List Ins} (h : InsAt w (.slice ad n cap) xs) (hn : n = xs.length) {j : Nat} (hj : j < n) : ∃ b o, ad = some ⟨b, o, none⟩ ∧ b < w.heap.size ∧ w.cell? ⟨b, o + j * 2, none⟩ = some (.int .i64 (xs.getD j Ins.no).op) ∧ w.cell? ⟨b, o + j * 2 + 1, none⟩ = some (.int .i64 (xs.getD j Ins.no).arg) := by
  subst hn
  obtain ⟨a, c, e, f⟩ := h
  simp only [Value.slice.injEq] at e
  obtain ⟨rfl, -, -⟩ := e
  obtain ⟨b, o, rfl, hb, hc⟩ := f (by omega)
  exact ⟨b, o, rfl, hb, hc j hj⟩

theorem TsAt.cell {w : World} {ad : Option Addr} {n cap : Nat} {ts : List ByteArray} (h : TsAt w (.slice ad n cap) ts) (hn : n = ts.length) {j : Nat} (hj : j < n) : ∃ b o, ad = some ⟨b, o, none⟩ ∧ w.cell? ⟨b, o + j, none⟩ = some (.string (ts.getD j ByteArray.empty)) := by
  subst hn
  obtain ⟨a, c, e, f⟩ := h
  simp only [Value.slice.injEq] at e
  obtain ⟨rfl, -, -⟩ := e
  obtain ⟨b, o, rfl, _, hc⟩ := f (by omega)
  exact ⟨b, o, rfl, hc j hj⟩

end Go.Proofs.YtdkenmpdgadcpaaDoor
