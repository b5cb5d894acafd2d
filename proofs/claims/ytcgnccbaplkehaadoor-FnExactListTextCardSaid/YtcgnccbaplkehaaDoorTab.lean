/- Words: a list that is told by its places; plain lists alone. -/
import Derived.WalkKit
import Derived.Laws.MakeOwn
namespace Go.Proofs.YtcgnccbaplkehaaDoor

def tabL (n : Nat) (f : Nat → Int) : List Int := (List.range n).map f
theorem tabL_len (n : Nat) (f : Nat → Int) : (tabL n f).length = n := by simp [tabL]
theorem tabL_get (n : Nat) (f : Nat → Int) (k : Nat) (h : k < (tabL n f).length) : (tabL n f)[k] = f k := by simp [tabL]
theorem tabL_congr (n : Nat) (f g : Nat → Int) (h : ∀ k, k < n → f k = g k) : tabL n f = tabL n g := by
  unfold tabL; apply List.map_congr_left; intro k hk; exact h k (List.mem_range.1 hk)
theorem tabL_set (n : Nat) (f : Nat → Int) (k : Nat) (v : Int) : (tabL n f).set k v = tabL n (fun s => if s = k then v else f s) := by
  apply List.ext_getElem
  · simp [tabL]
  · intro i h1 h2
    simp only [tabL, List.getElem_set, List.getElem_map, List.getElem_range]
    by_cases h : k = i
    · simp [h]
    · rw [if_neg h, if_neg (fun e => h e.symm)]
theorem tabL_snoc (n : Nat) (f : Nat → Int) : tabL (n + 1) f = tabL n f ++ [f n] := by simp [tabL, List.range_succ]
theorem tabL_zero (n : Nat) : List.replicate n (0 : Int) = tabL n (fun _ => 0) := by
  apply List.ext_getElem <;> simp [tabL]
/-- one more place holds its own value -/
theorem tabL_step (n : Nat) (f : Nat → Int) (done : Nat → Bool) (k : Nat) (hk : done k = false) (v : Int) (hv : v = f k) :
    (tabL n (fun s => if done s then f s else 0)).set k v = tabL n (fun s => if done s || s == k then f s else 0) := by
  rw [tabL_set]
  apply tabL_congr
  intro s _
  by_cases h : s = k
  · subst h; simp [hv]
  · simp [h]
theorem tabL_upto (n : Nat) (f : Nat → Int) (k : Nat) : (tabL n (fun s => if decide (s < k) then f s else 0)).set k (f k) = tabL n (fun s => if decide (s < k + 1) then f s else 0) := by
  rw [tabL_set]
  apply tabL_congr
  intro s _
  by_cases h : s = k
  · subst h; simp
  · rw [if_neg h]; have : decide (s < k) = decide (s < k + 1) := by rw [decide_eq_decide]; omega
    rw [this]
theorem tabL_whole (n : Nat) (f : Nat → Int) (k : Nat) (hk : n ≤ k) : tabL n (fun s => if decide (s < k) then f s else 0) = tabL n f := by
  apply tabL_congr
  intro s hs
  rw [decide_eq_true (by omega)]; rfl
theorem zeros_list (n : Nat) : (Go.madeCells #[Value.int .i64 0] n).toList = (List.replicate n (0 : Int)).map (Value.int .i64) := by
  apply List.ext_getElem
  · simp [Go.madeCells]
  · intro i h1 h2; simp [Go.madeCells, Nat.mod_one]
end Go.Proofs.YtcgnccbaplkehaaDoor
