/-
  No cell of these rows narrows 'for every input' (looked for: loops, veiled, ifaces, maps, wideKeys, modest, calm, conditions, laid).
  DERIVED. THE GIVEN ROWS OF THIS SEAT. 3 by the template 'for every input the law returns true; each argument reads behind the call as it read before'; 0 by the template 'total and deterministic' (their statements: YtljnffanajcifaaTotals.lean).
  GIVEN WITH THE SEED: the statements are not yours to turn. If you find one false, say at which input.
  Laid BY PROGRAM, IN A SANDBOX (cutbox-rows.mjs): the forced cells as the released guide's own fill.sh prints them over the translation 207d86f445b943bb… (all of the seat's roots in one cut). By AI agents, Wed Nov 11 2026. No macro, syntax, notation, axiom, sorry.
-/
import Derived.Test.YtljnffanajcifaaChecked
import GoSem.Claim
import GoSem.ClaimJoined
import GoSem.ClaimMapViews
import Derived.JoinedTies
import Derived.KernelRfl
namespace Go.Proofs.Ytljnffanajcifaa
/- THE CELL 'sum', in the pinned program and in every row, IS THE sha256 OF THE DUMP (.gsa) THAT YtljnffanajcifaaProg.lean LOADS. Nothing in Lean hashes anything: it is a label: what it is worth is what the hold of that sum in a sandbox is worth. -/
noncomputable def Try.pinned : Pinned := { name := "ytljnffanajcifaa", sum := "207d86f445b943bb1ff00fdf9a896736c503444e9d150ab39cccd382208dc9b7", checked := Try.checked }
namespace Rows
def none {H : Type} : Left H := { results := [], args := [] }

/-- 'laws.FnExactWorkerNew': WHATEVER THE INPUT: true; the input reads as it did. -/
def fnExactWorkerNewSpec : ChangeSpec := { name := "fnExactWorkerNew", fn := fun _ => fun
  | [d] => { results := [.lit (.bool true)], args := [d] }
  | _ => none }
def fnExactWorkerNewRow : OpenClaim := { program := "ytljnffanajcifaa", sum := "207d86f445b943bb1ff00fdf9a896736c503444e9d150ab39cccd382208dc9b7", func := "loop.example/g00237/laws.FnExactWorkerNew", spec := "fnExactWorkerNew", apart := false }
def FnExactWorkerNewSaid : Prop := fnExactWorkerNewRow.holds Try.pinned (OpenSpec.ofChange fnExactWorkerNewSpec)

/-- ITS FALSE NEIGHBOUR: 'it returns false'. Refute it at one input. -/
def fnExactWorkerNewWrong : ChangeSpec := { name := "fnExactWorkerNew", fn := fun _ => fun
  | [d] => { results := [.lit (.bool false)], args := [d] }
  | _ => none }
def FnExactWorkerNewWrongFalsely : Prop := fnExactWorkerNewRow.holds Try.pinned (OpenSpec.ofChange fnExactWorkerNewWrong)

/-- 'laws.FnExactTickWorker': WHATEVER THE INPUT: true; the input reads as it did. -/
def fnExactTickWorkerSpec : ChangeSpec := { name := "fnExactTickWorker", fn := fun _ => fun
  | [d] => { results := [.lit (.bool true)], args := [d] }
  | _ => none }
def fnExactTickWorkerRow : OpenClaim := { program := "ytljnffanajcifaa", sum := "207d86f445b943bb1ff00fdf9a896736c503444e9d150ab39cccd382208dc9b7", func := "loop.example/g00237/laws.FnExactTickWorker", spec := "fnExactTickWorker", inPlace := ["(*internal/sync.Mutex).Lock", "internal/race.Disable", "sync/atomic.CompareAndSwapInt32", "internal/race.Enable", "internal/race.Acquire", "(*internal/sync.Mutex).lockSlow", "internal/sync.runtime_canSpin", "internal/sync.runtime_doSpin", "internal/sync.throw", "internal/sync.runtime_nanotime", "internal/sync.runtime_SemacquireMutex", "sync/atomic.AddInt32", "(*internal/sync.Mutex).Unlock", "internal/race.ReleaseMerge", "(*internal/sync.Mutex).unlockSlow", "internal/sync.fatal", "internal/sync.runtime_Semrelease"], apart := false }
def FnExactTickWorkerSaid : Prop := fnExactTickWorkerRow.holds Try.pinned (OpenSpec.ofChange fnExactTickWorkerSpec)

/-- ITS FALSE NEIGHBOUR: 'it returns false'. Refute it at one input. -/
def fnExactTickWorkerWrong : ChangeSpec := { name := "fnExactTickWorker", fn := fun _ => fun
  | [d] => { results := [.lit (.bool false)], args := [d] }
  | _ => none }
def FnExactTickWorkerWrongFalsely : Prop := fnExactTickWorkerRow.holds Try.pinned (OpenSpec.ofChange fnExactTickWorkerWrong)

/-- 'laws.FnExactFallWorker': WHATEVER THE INPUT: true; the input reads as it did. -/
def fnExactFallWorkerSpec : ChangeSpec := { name := "fnExactFallWorker", fn := fun _ => fun
  | [d] => { results := [.lit (.bool true)], args := [d] }
  | _ => none }
def fnExactFallWorkerRow : OpenClaim := { program := "ytljnffanajcifaa", sum := "207d86f445b943bb1ff00fdf9a896736c503444e9d150ab39cccd382208dc9b7", func := "loop.example/g00237/laws.FnExactFallWorker", spec := "fnExactFallWorker", inPlace := ["(*internal/sync.Mutex).Lock", "internal/race.Disable", "sync/atomic.CompareAndSwapInt32", "internal/race.Enable", "internal/race.Acquire", "(*internal/sync.Mutex).lockSlow", "internal/sync.runtime_canSpin", "internal/sync.runtime_doSpin", "internal/sync.throw", "internal/sync.runtime_nanotime", "internal/sync.runtime_SemacquireMutex", "sync/atomic.AddInt32", "(*internal/sync.Mutex).Unlock", "internal/race.ReleaseMerge", "(*internal/sync.Mutex).unlockSlow", "internal/sync.fatal", "internal/sync.runtime_Semrelease"], apart := false }
def FnExactFallWorkerSaid : Prop := fnExactFallWorkerRow.holds Try.pinned (OpenSpec.ofChange fnExactFallWorkerSpec)

/-- ITS FALSE NEIGHBOUR: 'it returns false'. Refute it at one input. -/
def fnExactFallWorkerWrong : ChangeSpec := { name := "fnExactFallWorker", fn := fun _ => fun
  | [d] => { results := [.lit (.bool false)], args := [d] }
  | _ => none }
def FnExactFallWorkerWrongFalsely : Prop := fnExactFallWorkerRow.holds Try.pinned (OpenSpec.ofChange fnExactFallWorkerWrong)

/- THE SECOND FORM. 'bulk': how many values and letters a reading holds, each counted each time it is reached (what is shared counts as often as it is met; a slice's spare places count too). A statement '..UptoSaid' is the law's where the arguments, and the package variables that the reading takes, are together of bulk at most 1048576: NARROWER than '..Said'. Prove '..Said' where nothing that the law and all that it calls make is longer than what came in: it says more and counts as full. Else prove '..UptoSaid'. A law counts once. -/
mutual
def uptoBulk {H : Type} : DataW H → Nat
  | .lit (.string bytes) => bytes.length + 1
  | .lit _ => 1
  | .nil => 1
  | .ptr d => uptoBulk d + 1
  | .slice elems spare => uptoBulkAll elems + uptoBulkAll spare + 1
  | .agg parts => uptoBulkAll parts + 1
  | .iface _ d => uptoBulk d + 1
  | .map entries => uptoBulkEntries entries + 1
  | .held _ => 1
def uptoBulkAll {H : Type} : List (DataW H) → Nat
  | [] => 0
  | d :: r => uptoBulk d + uptoBulkAll r
def uptoBulkEntries {H : Type} : List (Lit × DataW H) → Nat
  | [] => 0
  | x :: r => uptoBulkEntry x + uptoBulkEntries r
def uptoBulkEntry {H : Type} : Lit × DataW H → Nat
  | (.string bytes, d) => bytes.length + uptoBulk d + 1
  | (_, d) => uptoBulk d + 1
 end
def uptoSmall : (H : Type) → List (DataW H) → Bool := fun _ ds => decide (uptoBulkAll ds ≤ 1048576)
def OpenSpec.upto (s : _root_.Go.ChangeSpec) : _root_.Go.OpenSpec := { _root_.Go.OpenSpec.ofChange s with cond := some uptoSmall }

/-- 'laws.FnExactWorkerNew', WHERE WHAT IT READS IS OF BULK AT MOST 1048576: true; the input reads as it did. -/
def fnExactWorkerNewUptoRow : OpenClaim := { program := "ytljnffanajcifaa", sum := "207d86f445b943bb1ff00fdf9a896736c503444e9d150ab39cccd382208dc9b7", func := "loop.example/g00237/laws.FnExactWorkerNew", spec := "fnExactWorkerNew", apart := false, narrowed := true }
def FnExactWorkerNewUptoSaid : Prop := fnExactWorkerNewUptoRow.holds Try.pinned (OpenSpec.upto fnExactWorkerNewSpec)

/-- 'laws.FnExactTickWorker', WHERE WHAT IT READS IS OF BULK AT MOST 1048576: true; the input reads as it did. -/
def fnExactTickWorkerUptoRow : OpenClaim := { program := "ytljnffanajcifaa", sum := "207d86f445b943bb1ff00fdf9a896736c503444e9d150ab39cccd382208dc9b7", func := "loop.example/g00237/laws.FnExactTickWorker", spec := "fnExactTickWorker", inPlace := ["(*internal/sync.Mutex).Lock", "internal/race.Disable", "sync/atomic.CompareAndSwapInt32", "internal/race.Enable", "internal/race.Acquire", "(*internal/sync.Mutex).lockSlow", "internal/sync.runtime_canSpin", "internal/sync.runtime_doSpin", "internal/sync.throw", "internal/sync.runtime_nanotime", "internal/sync.runtime_SemacquireMutex", "sync/atomic.AddInt32", "(*internal/sync.Mutex).Unlock", "internal/race.ReleaseMerge", "(*internal/sync.Mutex).unlockSlow", "internal/sync.fatal", "internal/sync.runtime_Semrelease"], apart := false, narrowed := true }
def FnExactTickWorkerUptoSaid : Prop := fnExactTickWorkerUptoRow.holds Try.pinned (OpenSpec.upto fnExactTickWorkerSpec)

/-- 'laws.FnExactFallWorker', WHERE WHAT IT READS IS OF BULK AT MOST 1048576: true; the input reads as it did. -/
def fnExactFallWorkerUptoRow : OpenClaim := { program := "ytljnffanajcifaa", sum := "207d86f445b943bb1ff00fdf9a896736c503444e9d150ab39cccd382208dc9b7", func := "loop.example/g00237/laws.FnExactFallWorker", spec := "fnExactFallWorker", inPlace := ["(*internal/sync.Mutex).Lock", "internal/race.Disable", "sync/atomic.CompareAndSwapInt32", "internal/race.Enable", "internal/race.Acquire", "(*internal/sync.Mutex).lockSlow", "internal/sync.runtime_canSpin", "internal/sync.runtime_doSpin", "internal/sync.throw", "internal/sync.runtime_nanotime", "internal/sync.runtime_SemacquireMutex", "sync/atomic.AddInt32", "(*internal/sync.Mutex).Unlock", "internal/race.ReleaseMerge", "(*internal/sync.Mutex).unlockSlow", "internal/sync.fatal", "internal/sync.runtime_Semrelease"], apart := false, narrowed := true }
def FnExactFallWorkerUptoSaid : Prop := fnExactFallWorkerUptoRow.holds Try.pinned (OpenSpec.upto fnExactFallWorkerSpec)

end Rows
end Go.Proofs.Ytljnffanajcifaa
