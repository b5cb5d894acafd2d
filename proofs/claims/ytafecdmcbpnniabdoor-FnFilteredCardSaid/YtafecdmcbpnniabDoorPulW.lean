/- The pulses of a wave as rows of cells; plain lists alone. -/
import Derived.Test.YtafecdmcbpnniabDoorEdgeWords
namespace Go.Proofs.YtafecdmcbpnniabDoor
open Go.RowKit
set_option linter.unusedVariables false
set_option linter.unusedSimpArgs false

def pulV (n : Int) : List Int → List Int → List Value
  | [], _ => []
  | u :: us, [] => .int .i64 u :: .int .i64 n :: .bool true :: pulV n us []
  | u :: us, d :: ds => .int .i64 u :: .int .i64 d :: .bool false :: pulV n us ds
theorem pulV_len (n : Int) (us : List Int) : ∀ ds : List Int, (pulV n us ds).length = us.length * 3 := by
  induction us with
  | nil => intro ds; rfl
  | cons u us ih => intro ds; cases ds <;> simp only [pulV, List.length_cons, ih] <;> omega
theorem pulV_open (n u : Int) (us : List Int) : ∀ ds : List Int, ds.length ≤ us.length → pulV n (us ++ [u]) ds = pulV n us ds ++ [.int .i64 u, .int .i64 n, .bool true] := by
  induction us with
  | nil => intro ds h; cases ds with
    | nil => rfl
    | cons d ds => simp at h
  | cons x us ih => intro ds h; cases ds with
    | nil => simp only [List.cons_append, pulV, ih [] (Nat.zero_le _)]
    | cons d ds => simp only [List.cons_append, pulV, ih ds (by simpa using h)]
theorem pulV_close (n d : Int) (us : List Int) : ∀ ds : List Int, us.length = ds.length + 1 → pulV n us (ds ++ [d]) = ((pulV n us ds).set (ds.length * 3 + 1) (.int .i64 d)).set (ds.length * 3 + 2) (.bool false) := by
  induction us with
  | nil => intro ds h; simp at h
  | cons x us ih => intro ds h; cases ds with
    | nil =>
      have : us = [] := by simpa using h
      subst this
      rfl
    | cons e ds =>
      have h' : us.length = ds.length + 1 := by simpa using h
      have e1 : (e :: ds).length * 3 + 1 = (ds.length * 3 + 1) + 1 + 1 + 1 := by simp; omega
      have e2 : (e :: ds).length * 3 + 2 = (ds.length * 3 + 2) + 1 + 1 + 1 := by simp; omega
      rw [e1, e2]
      simp only [List.cons_append, pulV, List.set_cons_succ, ih ds h']
theorem pulV_get (n : Int) (us : List Int) : ∀ (ds : List Int) (i : Nat), i < us.length →
    (pulV n us ds)[i * 3]? = some (.int .i64 (us.getD i 0)) ∧ (pulV n us ds)[i * 3 + 1]? = some (.int .i64 (if i < ds.length then ds.getD i 0 else n)) ∧ (pulV n us ds)[i * 3 + 2]? = some (.bool (decide (ds.length ≤ i))) := by
  induction us with
  | nil => intro ds i h; simp at h
  | cons u us ih =>
    intro ds i h
    cases i with
    | zero => cases ds <;> simp [pulV]
    | succ i =>
      have e0 : (i + 1) * 3 = i * 3 + 1 + 1 + 1 := by omega
      have e1 : (i + 1) * 3 + 1 = (i * 3 + 1) + 1 + 1 + 1 := by omega
      have e2 : (i + 1) * 3 + 2 = (i * 3 + 2) + 1 + 1 + 1 := by omega
      rw [e1, e2, e0]
      have hi : i < us.length := by simpa using h
      cases ds with
      | nil =>
        have := ih [] i hi
        simp only [pulV, List.getElem?_cons_succ]
        simpa using this
      | cons d ds =>
        have := ih ds i hi
        simp only [pulV, List.getElem?_cons_succ]
        simpa using this

/-- the first ticks of what lasts less than c, of the first i pulses -/
def shL (c : Int) (us ds : List Int) : Nat → List Int
  | 0 => []
  | i + 1 => if i < ds.length ∧ ds.getD i 0 - us.getD i 0 < c then shL c us ds i ++ [us.getD i 0] else shL c us ds i
theorem shL_len (c : Int) (us ds : List Int) (i : Nat) : (shL c us ds i).length ≤ i := by
  induction i with
  | zero => exact Nat.le_refl _
  | succ i ih =>
    simp only [shL]
    split
    · simp; omega
    · omega
theorem edgesL_mem (to : Int) (l : List UInt8) (n : Nat) (x : Int) (h : x ∈ edgesL to l n) : 0 ≤ x ∧ x < (n : Int) := by
  unfold edgesL at h
  simp only [List.mem_map, List.mem_filter, List.mem_range] at h
  obtain ⟨i, ⟨hi, _⟩, rfl⟩ := h
  omega
theorem edgesL_getD (to : Int) (l : List UInt8) (n i : Nat) (h : i < (edgesL to l n).length) : 0 ≤ (edgesL to l n).getD i 0 ∧ (edgesL to l n).getD i 0 < (n : Int) := by
  refine edgesL_mem to l n _ ?_
  rw [List.getD_eq_getElem?_getD, List.getElem?_eq_getElem h]
  exact List.getElem_mem h
theorem edges_turn (s : ByteArray) (hall : s.data.toList.all lvlB = true) : ∀ k, k ≤ s.size → (prL s.data.toList k = 48 ∧ (edgesL 49 s.data.toList k).length = (edgesL 48 s.data.toList k).length) ∨ (prL s.data.toList k = 49 ∧ (edgesL 49 s.data.toList k).length = (edgesL 48 s.data.toList k).length + 1) := by
  intro k
  induction k with
  | zero => intro _; exact .inl ⟨rfl, rfl⟩
  | succ k ih =>
    intro hk
    have hlt : k < s.size := by omega
    have hlv : lvlB s[k] = true := List.all_eq_true.1 hall s[k] (by simp [ByteArray.getElem_eq_getElem_data])
    have hl : (s[k].toNat : Int) = 48 ∨ (s[k].toNat : Int) = 49 := by simpa [lvlB] using hlv
    rw [prL_succ s k hlt]
    rcases ih (by omega) with ⟨hp, hq⟩ | ⟨hp, hq⟩ <;> rcases hl with h | h
    · rw [edgesL_miss 49 s k hlt (.inl (by omega)), edgesL_miss 48 s k hlt (.inr hp)]; exact .inl ⟨h, hq⟩
    · rw [edgesL_hit 49 s k hlt h (by omega), edgesL_miss 48 s k hlt (.inl (by omega))]; refine .inr ⟨h, ?_⟩; simp; omega
    · rw [edgesL_miss 49 s k hlt (.inl (by omega)), edgesL_hit 48 s k hlt h (by omega)]; refine .inl ⟨h, ?_⟩; simp; omega
    · rw [edgesL_miss 49 s k hlt (.inr hp), edgesL_miss 48 s k hlt (.inl (by omega))]; exact .inr ⟨h, hq⟩
/-- the ends of the pulses: the ticks at which the wave goes down, and its length where it ends with a pulse -/
def endsL (n : Int) (us ds : List Int) : List Int := if ds.length < us.length then ds ++ [n] else ds
end Go.Proofs.YtafecdmcbpnniabDoor
