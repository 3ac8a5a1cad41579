/- The program's functions of chapter 1 at what they wrote themselves: each reads it back. -/
import Derived.Test.YtnckjnkbpdfjpaaDoorIC
import Derived.Test.YtnckjnkbpdfjpaaDoorIF
import Derived.Test.YtnckjnkbpdfjpaaDoorIG
import Derived.Test.YtnckjnkbpdfjpaaDoorIH
import Derived.Test.YtnckjnkbpdfjpaaDoorPlainH
import Derived.Test.YtnckjnkbpdfjpaaDoorDrawC
namespace Go.Proofs.YtnckjnkbpdfjpaaDoor
open Go.RowKit

theorem list_data (l : List UInt8) : (⟨l.toArray⟩ : ByteArray).data.toList = l := by simp
theorem list_size (l : List UInt8) : (⟨l.toArray⟩ : ByteArray).size = l.length := by simp [ByteArray.size]
theorem app_data (a b : ByteArray) : (a ++ b).data.toList = a.data.toList ++ b.data.toList := by simp
theorem app_size (a b : ByteArray) : (a ++ b).size = a.size + b.size := by simp

theorem cVar (m : Nat) (w : World) (h : m ≤ 1000000000) :
    Calls Tryd.prog 6 #[.int .i64 (m : Int)] w fun e w' => e = .returned (.tuple #[.string ⟨(Pl.vb 8 m).toArray⟩, .bool true]) ∧ Below w.heap.size w w' := by
  have := implVarText_any (m : Int) w
  rwa [varRes_yes m h] at this

theorem cRead (m : Nat) (w : World) (h : m ≤ 1000000000) :
    Calls Tryd.prog 7 #[.string (⟨#[120]⟩ ++ ⟨(Pl.vb 8 m).toArray⟩ ++ ⟨#[121]⟩), .int .i64 1] w fun e w' => e = .returned (.tuple #[.int .i64 (m : Int), .int .i64 (1 + ((Pl.vb 8 m).length : Int)), .bool true]) ∧ w' = w := by
  have hl := Pl.vb_len 8 m
  have hs : ((⟨#[120]⟩ : ByteArray) ++ ⟨(Pl.vb 8 m).toArray⟩ ++ ⟨#[121]⟩).size = (Pl.vb 8 m).length + 2 := by
    rw [app_size, app_size, list_size (Pl.vb 8 m)]
    show 1 + _ + 1 = _
    omega
  have hr : rvRes (⟨#[120]⟩ ++ ⟨(Pl.vb 8 m).toArray⟩ ++ ⟨#[121]⟩) 1 = .tuple #[.int .i64 (m : Int), .int .i64 (1 + ((Pl.vb 8 m).length : Int)), .bool true] := by
    unfold rvRes
    rw [if_pos (by rw [hs]; omega)]
    have hd : List.drop (1 : Int).toNat ((⟨#[120]⟩ : ByteArray) ++ ⟨(Pl.vb 8 m).toArray⟩ ++ ⟨#[121]⟩).data.toList = Pl.vb 8 m ++ [121] := by
      rw [app_data, app_data, list_data]
      rfl
    rw [hd, Pl.rv_back m [121] h]
    rfl
  have := implRead_any (⟨#[120]⟩ ++ ⟨(Pl.vb 8 m).toArray⟩ ++ ⟨#[121]⟩) 1 w (by rw [hs]; omega)
  rwa [hr] at this

theorem cReadDec (m : Nat) (w : World) (h : m ≤ 1000000000) :
    Calls Tryd.prog 8 #[.string ⟨(Pl.decL (m : Int)).toArray⟩] w fun e w' => e = .returned (.tuple #[.int .i64 (m : Int), .bool true]) ∧ Below w.heap.size w w' := by
  obtain ⟨vs, e1, e2, e3⟩ := Pl.dec_back m h
  have hr : rdRes ⟨(Pl.decL (m : Int)).toArray⟩ = .tuple #[.int .i64 (m : Int), .bool true] := by
    unfold rdRes
    rw [list_size, if_pos e3, list_data, e1, rd_yes _ vs (by omega) (by rw [e2, list_data]), e2]
  have := implRd_any ⟨(Pl.decL (m : Int)).toArray⟩ w (by rw [list_size]; omega)
  rwa [hr] at this

theorem cShort (t : ByteArray) (w : World) (h : t.size ≤ 300) :
    Calls Tryd.prog 11 #[.string t] w fun e w' => e = .returned (.tuple #[.string (⟨(Pl.vb 8 t.size).toArray⟩ ++ t), .bool true]) ∧ Below w.heap.size w w' := by
  have := implShort_any t w (by omega)
  unfold shortRes at this
  rwa [if_pos (by omega)] at this

theorem cReadShort (t : ByteArray) (w : World) (h : t.size ≤ 300) :
    Calls Tryd.prog 12 #[.string (⟨(Pl.vb 8 t.size).toArray⟩ ++ t), .int .i64 0] w fun e w' => e = .returned (.tuple #[.string t, .int .i64 (((Pl.vb 8 t.size).length : Int) + (t.size : Int)), .bool true]) ∧ Below w.heap.size w w' := by
  have hl := Pl.vb_len 8 t.size
  have hs : ((⟨(Pl.vb 8 t.size).toArray⟩ : ByteArray) ++ t).size = (Pl.vb 8 t.size).length + t.size := by rw [app_size, list_size]
  have hr : rvRes (⟨(Pl.vb 8 t.size).toArray⟩ ++ t) 0 = .tuple #[.int .i64 (t.size : Int), .int .i64 ((Pl.vb 8 t.size).length : Int), .bool true] := by
    unfold rvRes
    rw [if_pos (by omega)]
    have hd : List.drop (0 : Int).toNat ((⟨(Pl.vb 8 t.size).toArray⟩ : ByteArray) ++ t).data.toList = Pl.vb 8 t.size ++ t.data.toList := by
      rw [app_data, list_data]
      rfl
    rw [hd, Pl.rv_back t.size _ (by omega)]
    show Value.tuple #[.int .i64 (t.size : Int), .int .i64 (0 + ((Pl.vb 8 t.size).length : Int)), .bool true] = _
    rw [Int.zero_add]
  have := implReadShort_yes (⟨(Pl.vb 8 t.size).toArray⟩ ++ t) 0 w (by omega) t.size (Pl.vb 8 t.size).length (by omega) (by omega) hr
  have he : ((⟨(Pl.vb 8 t.size).toArray⟩ : ByteArray) ++ t).extract (Pl.vb 8 t.size).length ((Pl.vb 8 t.size).length + t.size) = t := by
    rw [Lib.extract_eq, app_data, list_data, List.drop_left, Nat.add_sub_cancel_left, List.take_of_length_le (by simp), Lib.mk_data]
  rwa [he] at this

theorem cHex (t : ByteArray) (w : World) (h : t.size ≤ 300) :
    Calls Tryd.prog 13 #[.string t] w fun e w' => e = .returned (.tuple #[.string ⟨(Pl.hexL t.data.toList).toArray⟩, .bool true]) ∧ Below w.heap.size w w' := by
  have := implHex_any t w (by omega)
  unfold hexRes at this
  rwa [if_pos (by omega)] at this

theorem cUnhex (t : ByteArray) (w : World) (h : t.size ≤ 300) :
    Calls Tryd.prog 14 #[.string ⟨(Pl.hexL t.data.toList).toArray⟩] w fun e w' => e = .returned (.tuple #[.string t, .bool true]) ∧ Below w.heap.size w w' := by
  have hl : (Pl.hexL t.data.toList).length = 2 * t.size := by rw [Pl.hexL_len]; simp
  obtain ⟨vs, e1, e2⟩ := Pl.hex_back t.data.toList
  have hr : unRes ⟨(Pl.hexL t.data.toList).toArray⟩ = .tuple #[.string t, .bool true] := by
    unfold unRes
    rw [list_size, if_pos (by omega), list_data, e1]
    show Value.tuple #[.string ⟨(Pl.prs vs).toArray⟩, .bool true] = _
    rw [e2, Lib.mk_data]
  have := implUnhex_any ⟨(Pl.hexL t.data.toList).toArray⟩ w (by rw [list_size]; omega)
  rwa [hr] at this
end Go.Proofs.YtnckjnkbpdfjpaaDoor
