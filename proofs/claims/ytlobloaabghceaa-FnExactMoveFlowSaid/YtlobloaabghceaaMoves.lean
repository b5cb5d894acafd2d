/- Can all numbers of a list be those of moves? On both sides. -/
import Derived.Test.YtlobloaabghceaaConI
import Derived.Test.YtlobloaabghceaaIn64
namespace Go.Proofs.Ytlobloaabghceaa
open Go.RowKit Go.Shelf
set_option linter.unusedVariables false
set_option linter.unusedSimpArgs false

def movK (x : Int) : Bool := decide (-20 ≤ x ∧ x ≤ 20)
def movB (l : List Int) : Bool := l.all movK
theorem mov_at {l : List Int} (h : movB l = true) (k : Nat) (hk : k < l.length) : -20 ≤ l[k] ∧ l[k] ≤ 20 := by
  have := List.all_eq_true.1 h _ (List.getElem_mem hk)
  simpa [movK] using this
theorem mov_bad (l : List Int) (k : Nat) (hk : k < l.length) (h : ¬ (-20 ≤ l[k] ∧ l[k] ≤ 20)) : movB l = false := by
  unfold movB
  rw [List.all_eq_false]
  exact ⟨_, List.getElem_mem hk, by simpa [movK] using h⟩
theorem mov_all (l : List Int) (h : ∀ k (hk : k < l.length), -20 ≤ l[k] ∧ l[k] ≤ 20) : movB l = true := by
  unfold movB
  rw [List.all_eq_true]
  intro x hx
  obtain ⟨k, hk, rfl⟩ := List.getElem_of_mem hx
  exact decide_eq_true (h k hk)
theorem mov_any (l : List Int) : (l.any fun x => !movK x) = !movB l := by
  unfold movB
  induction l with
  | nil => rfl
  | cons x l ih => simp only [List.any_cons, List.all_cons, ih, Bool.not_and]

set_option maxHeartbeats 1000000 in
set_option maxRecDepth 100000 in
theorem l08Moves_any (a : Option Addr) (l : List Int) (n cap N : Nat) (w : World) (hn : n = l.length) (h : RowAt w a l) (hl : l.length ≤ 1048576) (hN : N ≤ 1048576) :
    Calls Try.prog 57 #[.int .i64 (N : Int), .slice a n cap] w fun e w' => e = .returned (.bool (decide (n = N) && movB l)) ∧ w = w' := by
  have HH := Lib.hid h
  have HN := Lib.hid hn
  clear h
  by_cases hne : n = N
  · subst hne
    have HD : Hid (∀ b, (decide (n = n) && b) = b) := fun b => by simp
    rw [HD.out]
    clear hn
    go_enter Try.func57, Try.ntmps57
    go_wp2
    go_loop [5] (fun i => ∃ k : Nat, k ≤ n ∧ i = .int .i64 (k : Int) ∧ Hid (∀ j (hj : j < l.length), j < k → -20 ≤ l[j] ∧ l[j] ≤ 20)) (fun i => n - (intOf i).toNat)
    case atStart => exact ⟨0, Nat.zero_le _, rfl, fun j _ h => absurd h (Nat.not_lt_zero _)⟩
    case round =>
      obtain ⟨k, hk, rfl, HA⟩ := hrel
      by_cases hlt : k < n
      · have hltz : (k : Int) < (n : Int) := by omega
        have hkl : k < l.length := by have := HN.out; omega
        obtain ⟨g, rfl, hc⟩ := HH.out k hkl
        obtain ⟨y, hy⟩ : ∃ y, l[k] = y := ⟨_, rfl⟩
        rw [hy] at hc
        by_cases he : -20 ≤ y ∧ y ≤ 20
        · have HS : Hid (∀ j (hj : j < l.length), j < k + 1 → -20 ≤ l[j] ∧ l[j] ≤ 20) := fun j hj h => by
            by_cases e : j = k
            · subst e; rw [hy]; exact he
            · exact HA.out j hj (by omega)
          clear hy
          go_wp2_with fail
          refine (l00In_t y (-20) 20 _ he.1 he.2).mono ?_; rintro e w' ⟨rfl, rfl⟩
          clear he
          go_wp2
          go_round
          case rel => exact ⟨k + 1, by omega, by go_num, HS⟩
          case measure => simp [intOf]; omega
        · have HB := Lib.hid (mov_bad l k hkl (by rw [hy]; exact he))
          clear hy
          go_wp2_with fail
          refine (l00In_f y (-20) 20 _ (by omega)).mono ?_; rintro e w' ⟨rfl, rfl⟩
          clear he
          go_wp2
          go_ret
          exact ⟨ret_bool HB.out.symm, rfl⟩
      · have HB := Lib.hid (mov_all l (fun j hj => HA.out j hj (by have := HN.out; omega)))
        have hltz : ¬ (k : Int) < (n : Int) := by omega
        go_wp2
        go_ret
        exact ⟨ret_bool HB.out.symm, rfl⟩
  · have hne2 : ((n : Int) != (N : Int)) = true := by simp; omega
    have HD : Hid (∀ b, (decide (n = N) && b) = false) := fun b => by simp [hne]
    rw [HD.out]
    clear hn hne
    go_enter Try.func57, Try.ntmps57
    go_wp2
    go_ret
    exact ⟨rfl, rfl⟩
theorem movCl (x : Int) (w : World) :
    Calls Try.prog 65 #[.int .i64 x] w fun e w' => e = .returned (.bool (!movK x)) ∧ w = w' := by
  unfold movK
  by_cases h : -20 ≤ x ∧ x ≤ 20
  · rw [decide_eq_true h]
    go_enter Try.func65, Try.ntmps65
    go_wp2_with fail
    refine (within_i64_t x (-20) 20 _ h.1 h.2).mono ?_; rintro e w' ⟨rfl, rfl⟩
    clear h
    go_wp2
    go_ret
    exact ⟨rfl, rfl⟩
  · rw [decide_eq_false h]
    go_enter Try.func65, Try.ntmps65
    go_wp2_with fail
    refine (within_i64_f x (-20) 20 _ (by omega)).mono ?_; rintro e w' ⟨rfl, rfl⟩
    clear h
    go_wp2
    go_ret
    exact ⟨rfl, rfl⟩
theorem areMoves_any (a : Option Addr) (l : List Int) (n cap : Nat) (w : World) (hn : n = l.length) (hl : n ≤ 1048576) (hc : ∀ W, Below w.heap.size w W → RowAt W a l) :
    Calls Try.prog 38 #[.slice a n cap] w fun e w' => e = .returned (.bool (movB l)) ∧ Below w.heap.size w w' := by
  have HC := Lib.hid (conInt 65 #[] #[] (fun x => !movK x) (enters_of Try.func65 (by kernel_rfl) rfl) a n cap l w
    (fun W x hb _ => (movCl x W).mono fun e w' h => ⟨h.1, h.2 ▸ hb⟩) hn (by omega) hc)
  rw [mov_any] at HC
  clear hn hc
  go_enter Try.func38, Try.ntmps38
  go_wp2_with fail
  refine HC.out.mono ?_
  rintro e w' ⟨rfl, hb⟩
  go_wp2
  go_ret
  exact ⟨ret_bool (by simp), hb⟩
end Go.Proofs.Ytlobloaabghceaa
