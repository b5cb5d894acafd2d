/- Words: the ticks at which a text of levels changes; plain lists alone. -/
import Derived.Test.YtemjohkieehojaaDoorWords
namespace Go.Proofs.YtemjohkieehojaaDoor
open Go.RowKit

/-- the level at a tick, and the one before it: 48 before the tick 0 -/
def lvL (l : List UInt8) (i : Nat) : Int := ((l.getD i 0).toNat : Int)
def prL (l : List UInt8) (i : Nat) : Int := if i = 0 then 48 else lvL l (i - 1)
/-- the ticks below n at which the level becomes to -/
def edgesL (to : Int) (l : List UInt8) (n : Nat) : List Int := ((List.range n).filter (fun i => lvL l i == to && prL l i != to)).map (fun i : Nat => (i : Int))
/-- the ticks below n at which the level changes, with the new one -/
def chgsL (l : List UInt8) (n : Nat) : List (Int × Int) := ((List.range n).filter (fun i => lvL l i != prL l i)).map (fun i : Nat => ((i : Int), lvL l i))

theorem lvL_get (s : ByteArray) (k : Nat) (h : k < s.size) : lvL s.data.toList k = (s[k].toNat : Int) := by
  unfold lvL
  rw [List.getD_eq_getElem?_getD, List.getElem?_eq_getElem (by simpa using h)]
  rfl
theorem prL_zero (l : List UInt8) : prL l 0 = 48 := rfl
theorem prL_succ (s : ByteArray) (k : Nat) (h : k < s.size) : prL s.data.toList (k + 1) = (s[k].toNat : Int) := by
  unfold prL; rw [if_neg (by omega)]; exact lvL_get s k h
theorem edgesL_hit (to : Int) (s : ByteArray) (k : Nat) (h : k < s.size) (h1 : (s[k].toNat : Int) = to) (h2 : prL s.data.toList k ≠ to) : edgesL to s.data.toList (k + 1) = edgesL to s.data.toList k ++ [(k : Int)] := by
  unfold edgesL; rw [List.range_succ, List.filter_append]; simp [lvL_get s k h, h1, h2]
theorem edgesL_miss (to : Int) (s : ByteArray) (k : Nat) (h : k < s.size) (h1 : (s[k].toNat : Int) ≠ to ∨ prL s.data.toList k = to) : edgesL to s.data.toList (k + 1) = edgesL to s.data.toList k := by
  unfold edgesL; rw [List.range_succ, List.filter_append]
  have : ((s[k].toNat : Int) == to && prL s.data.toList k != to) = false := by
    rcases h1 with h1 | h1 <;> simp [h1]
  simp [lvL_get s k h, this]
theorem chgsL_hit (s : ByteArray) (k : Nat) (h : k < s.size) (h1 : (s[k].toNat : Int) ≠ prL s.data.toList k) : chgsL s.data.toList (k + 1) = chgsL s.data.toList k ++ [((k : Int), (s[k].toNat : Int))] := by
  unfold chgsL; rw [List.range_succ, List.filter_append]; simp [lvL_get s k h, h1]
theorem chgsL_miss (s : ByteArray) (k : Nat) (h : k < s.size) (h1 : (s[k].toNat : Int) = prL s.data.toList k) : chgsL s.data.toList (k + 1) = chgsL s.data.toList k := by
  unfold chgsL; rw [List.range_succ, List.filter_append]; simp [lvL_get s k h, h1]
theorem edgesL_len (to : Int) (l : List UInt8) (n : Nat) : (edgesL to l n).length ≤ n := by
  unfold edgesL; rw [List.length_map]
  have := List.length_filter_le (fun i => lvL l i == to && prL l i != to) (List.range n)
  simpa using this
theorem chgsL_len (l : List UInt8) (n : Nat) : (chgsL l n).length ≤ n := by
  unfold chgsL; rw [List.length_map]
  have := List.length_filter_le (fun i => lvL l i != prL l i) (List.range n)
  simpa using this
/-- the changes so far are a beginning of all changes -/
theorem chgsL_prefix (l : List UInt8) (k n : Nat) (h : k ≤ n) : chgsL l k <+: chgsL l n := by
  obtain ⟨m, rfl⟩ : ∃ m, n = k + m := ⟨n - k, by omega⟩
  unfold chgsL
  rw [List.range_add, List.filter_append, List.map_append]
  exact List.prefix_append _ _
/-- of the changes, those to a level -/
def toL (to : Int) (cs : List (Int × Int)) : List Int := (cs.filter (fun c => c.2 == to)).map (·.1)
theorem toL_nil (to : Int) : toL to [] = [] := rfl
theorem toL_hit (to : Int) (cs : List (Int × Int)) (c : Int × Int) (h : c.2 = to) : toL to (cs ++ [c]) = toL to cs ++ [c.1] := by simp [toL, h]
theorem toL_miss (to : Int) (cs : List (Int × Int)) (c : Int × Int) (h : c.2 ≠ to) : toL to (cs ++ [c]) = toL to cs := by simp [toL, h]
theorem toL_len (to : Int) (cs : List (Int × Int)) : (toL to cs).length ≤ cs.length := by
  unfold toL; rw [List.length_map]; exact List.length_filter_le _ _
theorem toL_chgs (to : Int) (l : List UInt8) (n : Nat) : toL to (chgsL l n) = edgesL to l n := by
  unfold toL chgsL edgesL
  rw [List.filter_map, List.map_map, List.filter_filter]
  congr 1
  apply List.filter_congr
  intro i _
  rw [Bool.eq_iff_iff]
  simp only [Function.comp, Bool.and_eq_true, beq_iff_eq, bne_iff_ne, ne_eq]
  exact ⟨fun ⟨h1, h2⟩ => ⟨h1, fun e => h2 (h1.trans e.symm)⟩, fun ⟨h1, h2⟩ => ⟨h1, fun e => h2 (e.symm.trans h1)⟩⟩
end Go.Proofs.YtemjohkieehojaaDoor
