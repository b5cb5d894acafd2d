/- strings.Join of short texts with one byte between them. -/
import Derived.Test.YtemjohkieehojaaDoorStrs
import Derived.Test.YtemjohkieehojaaDoorScoG
import Derived.Test.YtemjohkieehojaaDoorBldStr
import Derived.Lib.Join
namespace Go.Proofs.YtemjohkieehojaaDoor
open Go.RowKit
set_option linter.unusedVariables false
set_option linter.unusedSimpArgs false
/-- a builder of the call's own, at block B, that holds the bytes l -/
def BldW (B : Nat) (l : List UInt8) (w : World) : Prop := Lib.BuilderAtF TB TU B B (.pointer (some ⟨B, 0, none⟩)) (Lib.byteCells l) w
theorem byteCells_apw (a b : List UInt8) : Lib.byteCells (a ++ b) = Lib.byteCells a ++ Lib.byteCells b := by simp [Lib.byteCells]
theorem byteCells_lnw (l : List UInt8) : (Lib.byteCells l).length = l.length := by simp [Lib.byteCells]
theorem bldW_str (B : Nat) (l : List UInt8) (s : ByteArray) (w : World) (h : BldW B l w) (hB : B ≤ w.heap.size) (hl : l.length + s.size ≤ 1000000) :
    Calls Tryd.prog 25 #[.pointer (some ⟨B, 0, none⟩), .string s] w fun e w' => e = .returned (.tuple #[.int .i64 (s.size : Int), .nilIface]) ∧ BldW B (l ++ s.data.toList) w' ∧ Below B w w' := by
  refine (writeString_any B B (Lib.byteCells l) s w (.inr h) (by rw [byteCells_lnw]; omega) hB).mono ?_
  rintro e w' ⟨h1, h2, h3, -⟩
  exact ⟨h1, by unfold BldW; rw [byteCells_apw]; exact h2, h3⟩
/-- the joined bytes, so far -/
def jnL (ls : List ByteArray) (k : Nat) : List UInt8 := Lib.join ((ls.take k).map (fun s => s.data.toList)) [44]
theorem jnL_one (ls : List ByteArray) (h : 0 < ls.length) : jnL ls 1 = (ls.getD 0 ByteArray.empty).data.toList := by
  unfold jnL
  cases ls with
  | nil => simp at h
  | cons x r => simp [Lib.join_one]
theorem jnL_succ (ls : List ByteArray) (k : Nat) (h0 : 1 ≤ k) (h : k < ls.length) : jnL ls (k + 1) = jnL ls k ++ [44] ++ (ls.getD k ByteArray.empty).data.toList := by
  unfold jnL
  obtain ⟨j, rfl⟩ : ∃ j, k = j + 1 := ⟨k - 1, by omega⟩
  cases ls with
  | nil => simp at h
  | cons x r =>
    simp only [List.length_cons] at h
    rw [List.take_succ_cons, List.take_succ_cons, List.map_cons, List.map_cons, Lib.join_cons, Lib.join_cons]
    have hj : j < r.length := by omega
    have hy : (r.map (fun s => s.data.toList))[j]? = some (r[j].data.toList) := by simp [List.getElem?_eq_getElem hj]
    rw [List.map_take, List.map_take]
    have := Lib.joinTail_take_succ [44] (r.map (fun s => s.data.toList)) j _ hy
    rw [this]
    simp [List.getElem?_eq_getElem hj]
theorem jnL_all (ls : List ByteArray) : jnL ls ls.length = Lib.join (ls.map (fun s => s.data.toList)) [44] := by unfold jnL; rw [List.take_length]
theorem jnL_len (ls : List ByteArray) (hs : ∀ k, k < ls.length → (ls.getD k ByteArray.empty).size ≤ 100) : ∀ k, k ≤ ls.length → (jnL ls k).length ≤ 101 * k
  | 0, _ => by simp [jnL, Lib.join_nil]
  | k + 1, h => by
    have ih := jnL_len ls hs k (by omega)
    have hk := hs k (by omega)
    by_cases h0 : k = 0
    · subst h0
      rw [jnL_one ls (by omega), show (ls.getD 0 ByteArray.empty).data.toList.length = (ls.getD 0 ByteArray.empty).size by simp]
      omega
    · rw [jnL_succ ls k (by omega) (by omega)]
      simp only [List.length_append, List.length_cons, List.length_nil]
      rw [show (ls.getD k ByteArray.empty).data.toList.length = (ls.getD k ByteArray.empty).size by simp]
      omega
end Go.Proofs.YtemjohkieehojaaDoor
