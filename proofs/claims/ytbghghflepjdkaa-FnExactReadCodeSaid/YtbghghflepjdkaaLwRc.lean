/- The law on ReadCode: at every text it answers as the specification, and its answer owns its memory. -/
import Derived.Test.YtbghghflepjdkaaZan
import Derived.Test.YtbghghflepjdkaaRcH
import Derived.Test.YtbghghflepjdkaaCoC
namespace Go.Proofs.Ytbghghflepjdkaa
open Go.RowKit

/-- What was read: its texts and instructions, or none. -/
def txsOf (R : Option (List ByteArray × List Ins × Nat × Nat)) : List ByteArray := (R.getD ([], [], 0, 0)).1
def insOf (R : Option (List ByteArray × List Ins × Nat × Nat)) : List Ins := (R.getD ([], [], 0, 0)).2.1
def liOf (R : Option (List ByteArray × List Ins × Nat × Nat)) : Nat := (R.getD ([], [], 0, 0)).2.2.1
def enOf (R : Option (List ByteArray × List Ins × Nat × Nat)) : Nat := (R.getD ([], [], 0, 0)).2.2.2
theorem ans_ok {l : List UInt8} {q : List ByteArray × List Ins × Nat × Nat} (h : Rc.ans l = some q) : Cd.ok q.1 q.2.1 0 (q.2.2.1 : Int) (q.2.2.2 : Int) = true := by
  unfold Rc.ans at h
  repeat' split at h
  all_goals first | (cases h; done) | skip
  rename_i hc
  obtain rfl := Option.some.inj h
  exact hc.2
theorem ans_bounds (l : List UInt8) : (txsOf (Rc.ans l)).length ≤ 60 ∧ (insOf (Rc.ans l)).length ≤ 250 := by
  cases h : Rc.ans l with
  | none => exact ⟨by simp [txsOf], by simp [insOf]⟩
  | some q =>
    have := ans_ok h
    unfold Cd.ok at this
    simp only [Bool.and_eq_true, decide_eq_true_eq] at this
    show q.1.length ≤ 60 ∧ q.2.1.length ≤ 250
    omega
theorem rc_ans {w' : World} {R : Option (List ByteArray × List Ins × Nat × Nat)} {e : Ending} (h : match R with
      | none => e = .returned (.tuple #[.agg #[.slice none 0 0, .slice none 0 0, .int .i64 0, .int .i64 0, .int .i64 0], .bool false])
      | some (ts, xs, l, u) => ∃ tv lv : Value, e = .returned (.tuple #[.agg #[tv, lv, .int .i64 0, .int .i64 (l : Int), .int .i64 (u : Int)], .bool true]) ∧ TsAt w' tv ts ∧ InsAt w' lv xs) :
    ∃ va vc ra rc, e = .returned (.tuple #[.agg #[.slice va (txsOf R).length vc, .slice ra (insOf R).length rc, .int .i64 0, .int .i64 ((liOf R : Nat) : Int), .int .i64 ((enOf R : Nat) : Int)], .bool R.isSome]) ∧ TsAt w' (.slice va (txsOf R).length vc) (txsOf R) ∧ InsAt w' (.slice ra (insOf R).length rc) (insOf R) := by
  cases R with
  | none => exact ⟨none, 0, none, 0, h, ⟨none, 0, rfl, fun h => by simp [txsOf] at h⟩, ⟨none, 0, rfl, fun h => by simp [insOf] at h⟩⟩
  | some q =>
    obtain ⟨ts, xs, l, u⟩ := q
    obtain ⟨tv, lv, rfl, hp, hr⟩ := h
    obtain ⟨va, vc, rfl, -⟩ := id hp
    obtain ⟨ra, rc, rfl, -⟩ := id hr
    exact ⟨va, vc, ra, rc, rfl, hp, hr⟩
theorem TR.wt {B : Nat} {w : World} {v : Value} {ts : List ByteArray} (h : TR B w v ts) : WTv (SBk v ts.length) w v ts.length 1 0 := by
  rcases h.2 with ⟨rfl, hn⟩ | ⟨g, cap, cur, rfl, h1, hg, hcap, hmax, hsz, htake⟩
  · exact ⟨none, 0, by rw [hn], fun h0 => by omega⟩
  · have hcs : ts.length ≤ cur.size := by
      have e1 := congrArg List.length htake
      simp at e1
      omega
    exact ⟨_, cap, rfl, fun h0 => ⟨g, rfl, ⟨h0, rfl⟩, cur, hg, hcs, fun i hi => by omega⟩⟩
theorem IR.wj {B : Nat} {w : World} {v : Value} {xs : List Ins} (h : IR B w v xs) (k : Nat) : WJv (SBk v xs.length) w v xs.length k 0 := by
  rcases h.2 with ⟨rfl, hn⟩ | ⟨g, cap, cur, rfl, h1, hg, hcap, hmax, hsz, htake⟩
  · exact ⟨none, 0, by rw [hn], fun h0 => by omega⟩
  · have hcs : xs.length * 2 ≤ cur.size := by
      have e1 := congrArg List.length htake
      have e2 := h.1
      simp at e1
      omega
    exact ⟨_, cap, rfl, fun h0 => ⟨g, rfl, ⟨h0, rfl⟩, cur, hg, hcs, fun i hi => by omega⟩⟩
theorem rc_own {X : Nat} {w' : World} {R : Option (List ByteArray × List Ins × Nat × Nat)} {e : Ending} (h : match R with
      | none => e = .returned (.tuple #[.agg #[.slice none 0 0, .slice none 0 0, .int .i64 0, .int .i64 0, .int .i64 0], .bool false])
      | some (ts, xs, l, u) => ∃ (tv lv : Value) (B2 : Nat), e = .returned (.tuple #[.agg #[tv, lv, .int .i64 0, .int .i64 (l : Int), .int .i64 (u : Int)], .bool true]) ∧ TR (X + 3) w' tv ts ∧ IR B2 w' lv xs ∧ X + 3 ≤ B2 ∧ ∀ q, tv.ownBlock = some q → q < B2) :
    ∃ va vc ra rc, e = .returned (.tuple #[.agg #[.slice va (txsOf R).length vc, .slice ra (insOf R).length rc, .int .i64 0, .int .i64 ((liOf R : Nat) : Int), .int .i64 ((enOf R : Nat) : Int)], .bool R.isSome]) ∧ TsAt w' (.slice va (txsOf R).length vc) (txsOf R) ∧ InsAt w' (.slice ra (insOf R).length rc) (insOf R) ∧ CW X w'.heap.size w' (.slice va (txsOf R).length vc) (.slice ra (insOf R).length rc) (txsOf R).length (insOf R).length 0 0 := by
  cases R with
  | none => exact ⟨none, 0, none, 0, h, ⟨none, 0, rfl, fun h => by simp [txsOf] at h⟩, ⟨none, 0, rfl, fun h => by simp [insOf] at h⟩, ⟨⟨none, 0, rfl, fun h => by simp [txsOf] at h⟩, ⟨none, 0, rfl, fun h => by simp [insOf] at h⟩, fun x hx => by have := hx.1; simp [txsOf] at this, fun x hx => by have := hx.1; simp [insOf] at this, fun x hx => by have := hx.1; simp [insOf] at this⟩⟩
  | some q =>
    obtain ⟨ts, xs, l, u⟩ := q
    obtain ⟨tv, lv, B2, rfl, ht, hi, hB, hq⟩ := h
    obtain ⟨va, vc, rfl, -⟩ := id ht.at
    obtain ⟨ra, rc, rfl, -⟩ := id hi.at
    refine ⟨va, vc, ra, rc, rfl, ht.at, hi.at, ⟨ht.wt, hi.wj _, fun x hx => ?_, fun x hx => ?_, fun x hx hx2 => ?_⟩⟩
    · have := World.ownsRow.lt ht x hx.2; omega
    · have := World.ownsRow.lt hi x hx.2; omega
    · have h1 := World.ownsRow.lt hi x hx.2
      have h2 := hq x hx2.2
      omega

set_option maxRecDepth 100000 in
set_option maxHeartbeats 4000000 in
theorem lawReadCode (s : ByteArray) (w : World) :
    Calls Try.prog 3 #[.string s] w fun e w' => e = .returned (.bool true) ∧ Below w.heap.size w w' := by
  by_cases hs : 1048576 < s.size
  · have d1 : decide ((1048576 : Int) < (s.size : Int)) = true := decide_eq_true (by omega)
    go_enter Try.func3, Try.ntmps3
    go_wp2
    go_ret
    exact ⟨rfl, Below.refl _ _⟩
  · have d1 : decide ((1048576 : Int) < (s.size : Int)) = false := decide_eq_false (by omega)
    obtain ⟨P, hP⟩ : ∃ P, P = txsOf (Rc.ans s.data.toList) := ⟨_, rfl⟩
    obtain ⟨R, hR⟩ : ∃ R, R = insOf (Rc.ans s.data.toList) := ⟨_, rfl⟩
    obtain ⟨li, hli⟩ : ∃ li : Int, li = ((liOf (Rc.ans s.data.toList) : Nat) : Int) := ⟨_, rfl⟩
    obtain ⟨en, hen⟩ : ∃ en : Int, en = ((enOf (Rc.ans s.data.toList) : Nat) : Int) := ⟨_, rfl⟩
    obtain ⟨ok, hok⟩ : ∃ ok, ok = (Rc.ans s.data.toList).isSome := ⟨_, rfl⟩
    obtain ⟨b1, b2⟩ := ans_bounds s.data.toList
    rw [← hP] at b1
    rw [← hR] at b2
    obtain ⟨n, hn⟩ : ∃ n, n = P.length := ⟨_, rfl⟩
    obtain ⟨rn, hrn⟩ : ∃ rn, rn = R.length := ⟨_, rfl⟩
    have CI : Hid (∀ W : World, Calls Try.prog 5 #[.string s] W fun e w' => Below W.heap.size W w' ∧ ∃ (va : Option Addr) (vc : Nat) (ra : Option Addr) (rc : Nat), e = .returned (.tuple #[.agg #[.slice va n vc, .slice ra rn rc, .int .i64 0, .int .i64 li, .int .i64 en], .bool ok]) ∧ TsAt w' (.slice va n vc) P ∧ InsAt w' (.slice ra rn rc) R ∧ CW W.heap.size w'.heap.size w' (.slice va n vc) (.slice ra rn rc) n rn 0 0) := by
      intro W
      refine (implReadCode s W (by omega)).mono ?_
      rintro e w' ⟨hb, h⟩
      obtain ⟨va, vc, ra, rc, k1, k2, k3, k4⟩ := rc_own h
      rw [← hP, ← hR, ← hok, ← hn, ← hrn, ← hli, ← hen] at k1
      rw [← hP, ← hn] at k2
      rw [← hR, ← hrn] at k3
      rw [← hP, ← hR, ← hn, ← hrn] at k4
      exact ⟨hb, va, vc, ra, rc, k1, k2, k3, k4⟩
    have CS : Hid (∀ W : World, Calls Try.prog 4 #[.string s] W fun e w' => Below W.heap.size W w' ∧ ∃ (va : Option Addr) (vc : Nat) (ra : Option Addr) (rc : Nat), e = .returned (.tuple #[.agg #[.slice va n vc, .slice ra rn rc, .int .i64 0, .int .i64 li, .int .i64 en], .bool ok]) ∧ TsAt w' (.slice va n vc) P ∧ InsAt w' (.slice ra rn rc) R) := by
      intro W
      refine (specReadCode s W (by omega)).mono ?_
      rintro e w' ⟨hb, h⟩
      obtain ⟨va, vc, ra, rc, k1, k2, k3⟩ := rc_ans h
      rw [← hP, ← hR, ← hok, ← hn, ← hrn, ← hli, ← hen] at k1
      rw [← hP, ← hn] at k2
      rw [← hR, ← hrn] at k3
      exact ⟨hb, va, vc, ra, rc, k1, k2, k3⟩
    have hn2 : n ≤ 1000 := by omega
    have hr2 : rn ≤ 1000 := by omega
    have HL : Hid (P.length ≤ 1048576 ∧ R.length ≤ 1048576) := ⟨by omega, by omega⟩
    clear hP hR hok hn hrn hli hen b1 b2 hs
    go_enter Try.func3, Try.ntmps3
    go_wp2_with fail
    refine (CS.out _).mono ?_
    rintro e w1 ⟨hb1, va1, vc1, ra1, rc1, rfl, p1, r1⟩
    have HP1 := hidOf3 (And.intro p1 r1)
    have HB1 := hidOf3 hb1
    have q1 := heap_alloc_new w1 (.cells #[.slice va1 n vc1, .slice ra1 rn rc1, .int .i64 0, .int .i64 li, .int .i64 en] 25)
    have HA1 := hidOf3 (And.intro q1 ((Below.refl w1.heap.size w1).alloc (Nat.le_refl _) (.cells #[.slice va1 n vc1, .slice ra1 rn rc1, .int .i64 0, .int .i64 li, .int .i64 en] 25)))
    have C2 := hidOf3 (CI.out (w1.alloc (.cells #[.slice va1 n vc1, .slice ra1 rn rc1, .int .i64 0, .int .i64 li, .int .i64 en] 25)))
    clear p1 r1 CS hb1 q1
    go_wp2_with fail
    generalize w1.alloc (.cells #[.slice va1 n vc1, .slice ra1 rn rc1, .int .i64 0, .int .i64 li, .int .i64 en] 25) = W1 at *
    refine C2.out.mono ?_
    rintro e w3 ⟨hb3, va2, vc2, ra2, rc2, rfl, p3, r3, pw3⟩
    have HZ3 := hidOf3 ((hb3.block _ (blk_lt HA1.out.1)).trans HA1.out.1)
    have HB13 := hidOf3 (HA1.out.2.trans (hb3.mono HA1.out.2.size))
    have HP3 := hidOf3 (And.intro p3 (And.intro r3 pw3))
    have HW1 := hidOf3 (And.intro (show w1.heap.size < W1.heap.size from blk_lt HA1.out.1) hb3.size)
    have q3 := heap_alloc_new w3 (.cells #[.slice va2 n vc2, .slice ra2 rn rc2, .int .i64 0, .int .i64 li, .int .i64 en] 25)
    have u3 : Below w3.heap.size w3 (w3.alloc (.cells #[.slice va2 n vc2, .slice ra2 rn rc2, .int .i64 0, .int .i64 li, .int .i64 en] 25)) := (Below.refl _ _).alloc (Nat.le_refl _) _
    have HA3 := hidOf3 (And.intro q3 u3)
    obtain ⟨z0, z1, z2, z3, z4⟩ := cells5c ((u3.block _ (blk_lt HZ3.out)).trans HZ3.out)
    clear hb3 p3 r3 pw3 C2 q3 u3 HA1
    go_wp2_with fail
    generalize w3.alloc (.cells #[.slice va2 n vc2, .slice ra2 rn rc2, .int .i64 0, .int .i64 li, .int .i64 en] 25) = W3 at *
    have hB1 : Below w1.heap.size w1 W3 := HB13.out.trans (HA3.out.2.mono HB13.out.size)
    refine (eqCode_any _ _ _ _ 0 li en P R _ (HP3.out.1.keep HA3.out.2) (HP3.out.2.1.keep HA3.out.2) (HP1.out.1.keep hB1) (HP1.out.2.keep hB1) HL.out.1 HL.out.2).mono ?_
    rintro e w5 ⟨rfl, hb5⟩
    have hq : (ok != ok) = false := by simp
    have HX5 := hidOf3 ((hb5.block _ (blk_lt HA3.out.1)).trans HA3.out.1)
    have HZ5 := hidOf3 ((hb5.block _ (blk_lt ((HA3.out.2.block _ (blk_lt HZ3.out)).trans HZ3.out))).trans ((HA3.out.2.block _ (blk_lt HZ3.out)).trans HZ3.out))
    have HB35 := hidOf3 (HA3.out.2.trans (hb5.mono HA3.out.2.size))
    obtain ⟨x0, x1, x2, x3, x4⟩ := cells5c HX5.out
    clear hb5 hB1 z0 z1 z2 z3 z4
    have C4 := hidOf3 (markCode_any W1.heap.size w3.heap.size n rn _ _ 0 li en w5 (HP3.out.2.2.keep HB35.out) HB35.out.size hn2 hr2)
    go_wp2_with fail
    obtain ⟨m, hm⟩ : ∃ m, m = 1 + n + 2 * rn := ⟨_, rfl⟩
    have hml : m ≤ 10000000 := by omega
    rw [← hm] at C4
    refine C4.out.mono ?_
    rintro e w6 ⟨rfl, pw6, fs6⟩
    have HX6 := hidOf3 ((fs6.2.2 _ (blk_lt HX5.out) (fun e => by omega)).trans HX5.out)
    have HZ6 := hidOf3 ((fs6.2.2 _ (blk_lt HZ5.out) (fun e => by have := HW1.out.1; omega)).trans HZ5.out)
    have hb56 : Below w1.heap.size w1 w6 := HB13.out.trans (((HB35.out.mono HB13.out.size).trans ⟨fs6.1.1, fs6.1.2.1, fs6.1.2.2, fs6.2.1, fun k hk => fs6.2.2 k (by have := HB13.out.size; have := HB35.out.size; omega) (fun e => by have := HW1.out.1; omega)⟩))
    have HB16 := hidOf3 hb56
    have CH : Hid (∀ W : World, Below w6.heap.size w6 W → Calls Try.prog 8 #[.agg #[.slice va2 n vc2, .slice ra2 rn rc2, .int .i64 0, .int .i64 li, .int .i64 en], .int .i64 1] W fun e w' => e = .returned (.int .i64 (m : Int)) ∧ Below W.heap.size W w') := fun W hW => by
      rw [hm]
      exact heldCode_any W1.heap.size w3.heap.size n rn _ _ 0 li en W (pw6.keep hW) hn2 hr2
    have dm : decide ((m : Int) < 0) = false := decide_eq_false (by omega)
    have hqm : ((m : Int) != (m : Int)) = false := by simp
    obtain ⟨y0, y1, y2, y3, y4⟩ := cells5c HX6.out
    clear pw6 fs6 hm hb56 HB35 HB13 HP3 HX5 HZ5 C4 x0 x1 x2 x3 x4 HA3 HZ3
    go_wp2_with fail
    refine (CH.out _ (Below.refl _ _)).mono ?_
    rintro e w7 ⟨rfl, hb7⟩
    have HX7 := hidOf3 ((hb7.block _ (blk_lt HX6.out)).trans HX6.out)
    have HZ7 := hidOf3 ((hb7.block _ (blk_lt HZ6.out)).trans HZ6.out)
    have HB7 := hidOf3 hb7
    have C5 := hidOf3 (CI.out w7)
    clear hb7 CI y0 y1 y2 y3 y4
    go_wp2_with fail
    refine C5.out.mono ?_
    rintro e w8 ⟨hb8, va8, vc8, ra8, rc8, rfl, p8, r8, -⟩
    have HX8 := hidOf3 ((hb8.block _ (blk_lt HX7.out)).trans HX7.out)
    have HZ8 := hidOf3 ((hb8.block _ (blk_lt HZ7.out)).trans HZ7.out)
    have HB68 := hidOf3 (HB7.out.trans (hb8.mono HB7.out.size))
    have HP8 := hidOf3 (And.intro p8 r8)
    have u8 : Below w8.heap.size w8 (w8.alloc (.cells #[.slice va8 n vc8, .slice ra8 rn rc8, .int .i64 0, .int .i64 li, .int .i64 en] 25)) := (Below.refl _ _).alloc (Nat.le_refl _) _
    have HA8 := hidOf3 u8
    obtain ⟨z0, z1, z2, z3, z4⟩ := cells5c ((u8.block _ (blk_lt HZ8.out)).trans HZ8.out)
    clear hb8 p8 r8 C5 u8 HX7 HZ7
    go_wp2_with fail
    generalize w8.alloc (.cells #[.slice va8 n vc8, .slice ra8 rn rc8, .int .i64 0, .int .i64 li, .int .i64 en] 25) = W8 at *
    have hB18 : Below w1.heap.size w1 W8 := HB16.out.trans ((HB68.out.trans (HA8.out.mono HB68.out.size)).mono HB16.out.size)
    refine (eqCode_any _ _ _ _ 0 li en P R _ (HP8.out.1.keep HA8.out) (HP8.out.2.keep HA8.out) (HP1.out.1.keep hB18) (HP1.out.2.keep hB18) HL.out.1 HL.out.2).mono ?_
    rintro e w10 ⟨rfl, hb10⟩
    have HX9 := hidOf3 ((HA8.out.block _ (blk_lt HX8.out)).trans HX8.out)
    obtain ⟨y0, y1, y2, y3, y4⟩ := cells5c ((hb10.block _ (blk_lt HX9.out)).trans HX9.out)
    have HB610 := hidOf3 ((HB68.out.trans (HA8.out.mono HB68.out.size)).trans (hb10.mono (Nat.le_trans HB68.out.size HA8.out.size)))
    clear hb10 hB18 z0 z1 z2 z3 z4 HX8 HZ8 HX9
    go_wp2_with fail
    refine (CH.out _ HB610.out).mono ?_
    rintro e w11 ⟨rfl, hb11⟩
    have hfin : Below w.heap.size w w11 := HB1.out.trans ((HB16.out.trans ((HB610.out.trans (hb11.mono HB610.out.size)).mono HB16.out.size)).mono HB1.out.size)
    go_wp2
    go_ret
    exact ⟨rfl, hfin⟩
end Go.Proofs.Ytbghghflepjdkaa
