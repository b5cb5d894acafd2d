/- The sum of two numbers of two words and a sign, on the side of the program. -/
import Derived.Test.YtomdoamfdidghaaWideImpl
namespace Go.Proofs.Ytomdoamfdidghaa
open Go.RowKit

def cA (A B : Nat) : Nat := (loW A + loW B) / 18446744073709551616
def sL (A B : Nat) : Nat := (loW A + 18446744073709551616 - loW B) % 18446744073709551616
def bA (A B : Nat) : Nat := if loW A < loW B then 1 else 0
def sH (A B : Nat) : Nat := (hiW A + 18446744073709551616 - hiW B - bA A B) % 18446744073709551616
theorem sL_eq (A B : Nat) (h : B ≤ A) : sL A B = loW (A - B) := by unfold sL loW; omega
theorem sH_eq (A B : Nat) (h : B ≤ A) (hA : A < 340282366920938463463374607431768211456) : sH A B = hiW (A - B) := by
  unfold sH bA hiW loW
  split <;> omega

@[go_sem] theorem add64_lo (A B : Nat) (w : World) :
    (callFunc 57 #[.int .u64 (loW A), .int .u64 (loW B), .int .u64 0]).run Try.prog w = .ok (.value (.tuple #[.int .u64 (loW (A + B)), .int .u64 (cA A B)])) w := by
  have h := add64_run (loW A) (loW B) 0 (by omega) w
  have e1 : (loW A + loW B + 0) % 18446744073709551616 = loW (A + B) := by unfold loW; omega
  have e2 : (loW A + loW B + 0) / 18446744073709551616 = cA A B := rfl
  rw [e1, e2] at h
  exact h
@[go_sem] theorem add64_hi (A B : Nat) (w : World) :
    (callFunc 57 #[.int .u64 (hiW A), .int .u64 (hiW B), .int .u64 (cA A B)]).run Try.prog w = .ok (.value (.tuple #[.int .u64 ((hiW (A + B) % 18446744073709551616 : Nat) : Int), .int .u64 (((hiW A + hiW B + cA A B) / 18446744073709551616 : Nat) : Int)])) w := by
  rw [add64_run (hiW A) (hiW B) (cA A B) (by unfold cA loW; omega) w]
  have e1 : hiW A + hiW B + cA A B = hiW (A + B) := by unfold hiW cA loW; omega
  rw [e1]
@[go_sem] theorem sub64_lo (A B : Nat) (w : World) :
    (callFunc 58 #[.int .u64 (loW A), .int .u64 (loW B), .int .u64 0]).run Try.prog w = .ok (.value (.tuple #[.int .u64 (sL A B), .int .u64 (bA A B)])) w := by
  have h := sub64_run (loW A) (loW B) 0 (by omega) w
  exact h
@[go_sem] theorem sub64_hi (A B : Nat) (w : World) :
    (callFunc 58 #[.int .u64 (hiW A), .int .u64 (hiW B), .int .u64 (bA A B)]).run Try.prog w = .ok (.value (.tuple #[.int .u64 (sH A B), .int .u64 ((if hiW A < hiW B + bA A B then 1 else 0 : Nat) : Int)])) w :=
  sub64_run (hiW A) (hiW B) (bA A B) (by unfold bA; split <;> omega) w

theorem isSmaller_any (n m : Bool) (A B : Nat) (w : World) :
    Calls Try.prog 56 #[.agg #[.bool n, .int .u64 (hiW A), .int .u64 (loW A)], .agg #[.bool m, .int .u64 (hiW B), .int .u64 (loW B)]] w fun e w' => e = .returned (.bool (decide (A < B))) ∧ Below w.heap.size w w' := by
  have h : decide (hiW A < hiW B ∨ (hiW A = hiW B ∧ loW A < loW B)) = decide (A < B) := by
    rw [decide_eq_decide]; unfold hiW loW; omega
  rw [← h]
  exact isSmaller_raw n m _ _ _ _ w
theorem isSmaller_t (n m : Bool) (A B : Nat) (w : World) (h : A < B) :
    Calls Try.prog 56 #[.agg #[.bool n, .int .u64 (hiW A), .int .u64 (loW A)], .agg #[.bool m, .int .u64 (hiW B), .int .u64 (loW B)]] w fun e w' => e = .returned (.bool true) ∧ Below w.heap.size w w' := by
  have := isSmaller_any n m A B w
  rwa [decide_eq_true h] at this
theorem isSmaller_f (n m : Bool) (A B : Nat) (w : World) (h : ¬ A < B) :
    Calls Try.prog 56 #[.agg #[.bool n, .int .u64 (hiW A), .int .u64 (loW A)], .agg #[.bool m, .int .u64 (hiW B), .int .u64 (loW B)]] w fun e w' => e = .returned (.bool false) ∧ Below w.heap.size w w' := by
  have := isSmaller_any n m A B w
  rwa [decide_eq_false h] at this

set_option maxHeartbeats 1000000 in
set_option maxRecDepth 100000 in
theorem plus_lt_same (n : Bool) (A B : Nat) (w : World) (h : A < B) :
    Calls Try.prog 37 #[.agg #[.bool n, .int .u64 (hiW A), .int .u64 (loW A)], .agg #[.bool n, .int .u64 (hiW B), .int .u64 (loW B)]] w fun e w' => e = .returned (.agg #[.bool n, .int .u64 ((hiW (B + A) % 18446744073709551616 : Nat) : Int), .int .u64 (loW (B + A))]) ∧ Below w.heap.size w w' := by
  go_enter Try.func37, Try.ntmps37
  go_wp2_with fail
  refine (isSmaller_t n n A B _ h).mono ?_; rintro e w1 ⟨rfl, hb⟩
  obtain ⟨hc, hf⟩ := bcell hb
  have HB := Lib.hid ((((((Below.refl _ _).alloc (Nat.le_refl _) _).alloc (by simp) _).alloc (by simp; omega) _).trans (hb.mono (by simp; omega)) : Below w.heap.size w w1))
  have hz := hb.size
  simp at hz
  have c00 : w1.cell? ⟨w.heap.size, 0, none⟩ = some (.bool n) := by
    rw [hc _ _ (by simp <;> omega)]
    try simp [go_sem]
  have f00 : w1.frozen? ⟨w.heap.size, 0, none⟩ = false := by
    rw [hf _ _ (by simp <;> omega)]
    try simp [go_sem]
  have c01 : w1.cell? ⟨w.heap.size, 1, none⟩ = some (.int .u64 (hiW A)) := by
    rw [hc _ _ (by simp <;> omega)]
    try simp [go_sem]
  have f01 : w1.frozen? ⟨w.heap.size, 1, none⟩ = false := by
    rw [hf _ _ (by simp <;> omega)]
    try simp [go_sem]
  have c02 : w1.cell? ⟨w.heap.size, 2, none⟩ = some (.int .u64 (loW A)) := by
    rw [hc _ _ (by simp <;> omega)]
    try simp [go_sem]
  have f02 : w1.frozen? ⟨w.heap.size, 2, none⟩ = false := by
    rw [hf _ _ (by simp <;> omega)]
    try simp [go_sem]
  have c10 : w1.cell? ⟨w.heap.size + 1, 0, none⟩ = some (.bool n) := by
    rw [hc _ _ (by simp <;> omega)]
    try simp [go_sem]
  have f10 : w1.frozen? ⟨w.heap.size + 1, 0, none⟩ = false := by
    rw [hf _ _ (by simp <;> omega)]
    try simp [go_sem]
  have c11 : w1.cell? ⟨w.heap.size + 1, 1, none⟩ = some (.int .u64 (hiW B)) := by
    rw [hc _ _ (by simp <;> omega)]
    try simp [go_sem]
  have f11 : w1.frozen? ⟨w.heap.size + 1, 1, none⟩ = false := by
    rw [hf _ _ (by simp <;> omega)]
    try simp [go_sem]
  have c12 : w1.cell? ⟨w.heap.size + 1, 2, none⟩ = some (.int .u64 (loW B)) := by
    rw [hc _ _ (by simp <;> omega)]
    try simp [go_sem]
  have f12 : w1.frozen? ⟨w.heap.size + 1, 2, none⟩ = false := by
    rw [hf _ _ (by simp <;> omega)]
    try simp [go_sem]
  have c20 : w1.cell? ⟨w.heap.size + 1 + 1, 0, none⟩ = some (.bool false) := by
    rw [hc _ _ (by simp <;> omega)]
    try simp [go_sem]
  have f20 : w1.frozen? ⟨w.heap.size + 1 + 1, 0, none⟩ = false := by
    rw [hf _ _ (by simp <;> omega)]
    try simp [go_sem]
  have c21 : w1.cell? ⟨w.heap.size + 1 + 1, 1, none⟩ = some (.int .u64 0) := by
    rw [hc _ _ (by simp <;> omega)]
    try simp [go_sem]
  have f21 : w1.frozen? ⟨w.heap.size + 1 + 1, 1, none⟩ = false := by
    rw [hf _ _ (by simp <;> omega)]
    try simp [go_sem]
  have c22 : w1.cell? ⟨w.heap.size + 1 + 1, 2, none⟩ = some (.int .u64 0) := by
    rw [hc _ _ (by simp <;> omega)]
    try simp [go_sem]
  have f22 : w1.frozen? ⟨w.heap.size + 1 + 1, 2, none⟩ = false := by
    rw [hf _ _ (by simp <;> omega)]
    try simp [go_sem]
  clear hc hf
  go_wp2
  all_goals
   refine bodyPost_ret (v := .agg #[.bool n, .int .u64 ((hiW (B + A) % 18446744073709551616 : Nat) : Int), .int .u64 (loW (B + A))]) (by simp [results, Try.results37, go_sem, *]) rfl ⟨rfl, ?_⟩
   repeat (refine Below.setCell ?_ (by first | (simp; done) | (simp; omega)) _)
   exact HB.out
set_option maxHeartbeats 1000000 in
set_option maxRecDepth 100000 in
theorem plus_ge_same (n : Bool) (A B : Nat) (w : World) (h : ¬ A < B) :
    Calls Try.prog 37 #[.agg #[.bool n, .int .u64 (hiW A), .int .u64 (loW A)], .agg #[.bool n, .int .u64 (hiW B), .int .u64 (loW B)]] w fun e w' => e = .returned (.agg #[.bool n, .int .u64 ((hiW (A + B) % 18446744073709551616 : Nat) : Int), .int .u64 (loW (A + B))]) ∧ Below w.heap.size w w' := by
  go_enter Try.func37, Try.ntmps37
  go_wp2_with fail
  refine (isSmaller_f n n A B _ h).mono ?_; rintro e w1 ⟨rfl, hb⟩
  obtain ⟨hc, hf⟩ := bcell hb
  have HB := Lib.hid ((((((Below.refl _ _).alloc (Nat.le_refl _) _).alloc (by simp) _).alloc (by simp; omega) _).trans (hb.mono (by simp; omega)) : Below w.heap.size w w1))
  have hz := hb.size
  simp at hz
  have c00 : w1.cell? ⟨w.heap.size, 0, none⟩ = some (.bool n) := by
    rw [hc _ _ (by simp <;> omega)]
    try simp [go_sem]
  have f00 : w1.frozen? ⟨w.heap.size, 0, none⟩ = false := by
    rw [hf _ _ (by simp <;> omega)]
    try simp [go_sem]
  have c01 : w1.cell? ⟨w.heap.size, 1, none⟩ = some (.int .u64 (hiW A)) := by
    rw [hc _ _ (by simp <;> omega)]
    try simp [go_sem]
  have f01 : w1.frozen? ⟨w.heap.size, 1, none⟩ = false := by
    rw [hf _ _ (by simp <;> omega)]
    try simp [go_sem]
  have c02 : w1.cell? ⟨w.heap.size, 2, none⟩ = some (.int .u64 (loW A)) := by
    rw [hc _ _ (by simp <;> omega)]
    try simp [go_sem]
  have f02 : w1.frozen? ⟨w.heap.size, 2, none⟩ = false := by
    rw [hf _ _ (by simp <;> omega)]
    try simp [go_sem]
  have c10 : w1.cell? ⟨w.heap.size + 1, 0, none⟩ = some (.bool n) := by
    rw [hc _ _ (by simp <;> omega)]
    try simp [go_sem]
  have f10 : w1.frozen? ⟨w.heap.size + 1, 0, none⟩ = false := by
    rw [hf _ _ (by simp <;> omega)]
    try simp [go_sem]
  have c11 : w1.cell? ⟨w.heap.size + 1, 1, none⟩ = some (.int .u64 (hiW B)) := by
    rw [hc _ _ (by simp <;> omega)]
    try simp [go_sem]
  have f11 : w1.frozen? ⟨w.heap.size + 1, 1, none⟩ = false := by
    rw [hf _ _ (by simp <;> omega)]
    try simp [go_sem]
  have c12 : w1.cell? ⟨w.heap.size + 1, 2, none⟩ = some (.int .u64 (loW B)) := by
    rw [hc _ _ (by simp <;> omega)]
    try simp [go_sem]
  have f12 : w1.frozen? ⟨w.heap.size + 1, 2, none⟩ = false := by
    rw [hf _ _ (by simp <;> omega)]
    try simp [go_sem]
  have c20 : w1.cell? ⟨w.heap.size + 1 + 1, 0, none⟩ = some (.bool false) := by
    rw [hc _ _ (by simp <;> omega)]
    try simp [go_sem]
  have f20 : w1.frozen? ⟨w.heap.size + 1 + 1, 0, none⟩ = false := by
    rw [hf _ _ (by simp <;> omega)]
    try simp [go_sem]
  have c21 : w1.cell? ⟨w.heap.size + 1 + 1, 1, none⟩ = some (.int .u64 0) := by
    rw [hc _ _ (by simp <;> omega)]
    try simp [go_sem]
  have f21 : w1.frozen? ⟨w.heap.size + 1 + 1, 1, none⟩ = false := by
    rw [hf _ _ (by simp <;> omega)]
    try simp [go_sem]
  have c22 : w1.cell? ⟨w.heap.size + 1 + 1, 2, none⟩ = some (.int .u64 0) := by
    rw [hc _ _ (by simp <;> omega)]
    try simp [go_sem]
  have f22 : w1.frozen? ⟨w.heap.size + 1 + 1, 2, none⟩ = false := by
    rw [hf _ _ (by simp <;> omega)]
    try simp [go_sem]
  clear hc hf
  go_wp2
  all_goals
   refine bodyPost_ret (v := .agg #[.bool n, .int .u64 ((hiW (A + B) % 18446744073709551616 : Nat) : Int), .int .u64 (loW (A + B))]) (by simp [results, Try.results37, go_sem, *]) rfl ⟨rfl, ?_⟩
   repeat (refine Below.setCell ?_ (by first | (simp; done) | (simp; omega)) _)
   exact HB.out
set_option maxHeartbeats 1000000 in
set_option maxRecDepth 100000 in
theorem plus_lt_true (A B : Nat) (w : World) (h : A < B) :
    Calls Try.prog 37 #[.agg #[.bool true, .int .u64 (hiW A), .int .u64 (loW A)], .agg #[.bool false, .int .u64 (hiW B), .int .u64 (loW B)]] w fun e w' => e = .returned (.agg #[.bool false, .int .u64 (sH B A), .int .u64 (sL B A)]) ∧ Below w.heap.size w w' := by
  go_enter Try.func37, Try.ntmps37
  go_wp2_with fail
  refine (isSmaller_t true false A B _ h).mono ?_; rintro e w1 ⟨rfl, hb⟩
  obtain ⟨hc, hf⟩ := bcell hb
  have HB := Lib.hid ((((((Below.refl _ _).alloc (Nat.le_refl _) _).alloc (by simp) _).alloc (by simp; omega) _).trans (hb.mono (by simp; omega)) : Below w.heap.size w w1))
  have hz := hb.size
  simp at hz
  have c00 : w1.cell? ⟨w.heap.size, 0, none⟩ = some (.bool true) := by
    rw [hc _ _ (by simp <;> omega)]
    try simp [go_sem]
  have f00 : w1.frozen? ⟨w.heap.size, 0, none⟩ = false := by
    rw [hf _ _ (by simp <;> omega)]
    try simp [go_sem]
  have c01 : w1.cell? ⟨w.heap.size, 1, none⟩ = some (.int .u64 (hiW A)) := by
    rw [hc _ _ (by simp <;> omega)]
    try simp [go_sem]
  have f01 : w1.frozen? ⟨w.heap.size, 1, none⟩ = false := by
    rw [hf _ _ (by simp <;> omega)]
    try simp [go_sem]
  have c02 : w1.cell? ⟨w.heap.size, 2, none⟩ = some (.int .u64 (loW A)) := by
    rw [hc _ _ (by simp <;> omega)]
    try simp [go_sem]
  have f02 : w1.frozen? ⟨w.heap.size, 2, none⟩ = false := by
    rw [hf _ _ (by simp <;> omega)]
    try simp [go_sem]
  have c10 : w1.cell? ⟨w.heap.size + 1, 0, none⟩ = some (.bool false) := by
    rw [hc _ _ (by simp <;> omega)]
    try simp [go_sem]
  have f10 : w1.frozen? ⟨w.heap.size + 1, 0, none⟩ = false := by
    rw [hf _ _ (by simp <;> omega)]
    try simp [go_sem]
  have c11 : w1.cell? ⟨w.heap.size + 1, 1, none⟩ = some (.int .u64 (hiW B)) := by
    rw [hc _ _ (by simp <;> omega)]
    try simp [go_sem]
  have f11 : w1.frozen? ⟨w.heap.size + 1, 1, none⟩ = false := by
    rw [hf _ _ (by simp <;> omega)]
    try simp [go_sem]
  have c12 : w1.cell? ⟨w.heap.size + 1, 2, none⟩ = some (.int .u64 (loW B)) := by
    rw [hc _ _ (by simp <;> omega)]
    try simp [go_sem]
  have f12 : w1.frozen? ⟨w.heap.size + 1, 2, none⟩ = false := by
    rw [hf _ _ (by simp <;> omega)]
    try simp [go_sem]
  have c20 : w1.cell? ⟨w.heap.size + 1 + 1, 0, none⟩ = some (.bool false) := by
    rw [hc _ _ (by simp <;> omega)]
    try simp [go_sem]
  have f20 : w1.frozen? ⟨w.heap.size + 1 + 1, 0, none⟩ = false := by
    rw [hf _ _ (by simp <;> omega)]
    try simp [go_sem]
  have c21 : w1.cell? ⟨w.heap.size + 1 + 1, 1, none⟩ = some (.int .u64 0) := by
    rw [hc _ _ (by simp <;> omega)]
    try simp [go_sem]
  have f21 : w1.frozen? ⟨w.heap.size + 1 + 1, 1, none⟩ = false := by
    rw [hf _ _ (by simp <;> omega)]
    try simp [go_sem]
  have c22 : w1.cell? ⟨w.heap.size + 1 + 1, 2, none⟩ = some (.int .u64 0) := by
    rw [hc _ _ (by simp <;> omega)]
    try simp [go_sem]
  have f22 : w1.frozen? ⟨w.heap.size + 1 + 1, 2, none⟩ = false := by
    rw [hf _ _ (by simp <;> omega)]
    try simp [go_sem]
  clear hc hf
  go_wp2
  all_goals
   refine bodyPost_ret (v := .agg #[.bool false, .int .u64 (sH B A), .int .u64 (sL B A)]) (by simp [results, Try.results37, go_sem, *]) rfl ⟨rfl, ?_⟩
   repeat (refine Below.setCell ?_ (by first | (simp; done) | (simp; omega)) _)
   exact HB.out
set_option maxHeartbeats 1000000 in
set_option maxRecDepth 100000 in
theorem plus_ge_true (A B : Nat) (w : World) (h : ¬ A < B) :
    Calls Try.prog 37 #[.agg #[.bool true, .int .u64 (hiW A), .int .u64 (loW A)], .agg #[.bool false, .int .u64 (hiW B), .int .u64 (loW B)]] w fun e w' => e = .returned (.agg #[.bool true, .int .u64 (sH A B), .int .u64 (sL A B)]) ∧ Below w.heap.size w w' := by
  go_enter Try.func37, Try.ntmps37
  go_wp2_with fail
  refine (isSmaller_f true false A B _ h).mono ?_; rintro e w1 ⟨rfl, hb⟩
  obtain ⟨hc, hf⟩ := bcell hb
  have HB := Lib.hid ((((((Below.refl _ _).alloc (Nat.le_refl _) _).alloc (by simp) _).alloc (by simp; omega) _).trans (hb.mono (by simp; omega)) : Below w.heap.size w w1))
  have hz := hb.size
  simp at hz
  have c00 : w1.cell? ⟨w.heap.size, 0, none⟩ = some (.bool true) := by
    rw [hc _ _ (by simp <;> omega)]
    try simp [go_sem]
  have f00 : w1.frozen? ⟨w.heap.size, 0, none⟩ = false := by
    rw [hf _ _ (by simp <;> omega)]
    try simp [go_sem]
  have c01 : w1.cell? ⟨w.heap.size, 1, none⟩ = some (.int .u64 (hiW A)) := by
    rw [hc _ _ (by simp <;> omega)]
    try simp [go_sem]
  have f01 : w1.frozen? ⟨w.heap.size, 1, none⟩ = false := by
    rw [hf _ _ (by simp <;> omega)]
    try simp [go_sem]
  have c02 : w1.cell? ⟨w.heap.size, 2, none⟩ = some (.int .u64 (loW A)) := by
    rw [hc _ _ (by simp <;> omega)]
    try simp [go_sem]
  have f02 : w1.frozen? ⟨w.heap.size, 2, none⟩ = false := by
    rw [hf _ _ (by simp <;> omega)]
    try simp [go_sem]
  have c10 : w1.cell? ⟨w.heap.size + 1, 0, none⟩ = some (.bool false) := by
    rw [hc _ _ (by simp <;> omega)]
    try simp [go_sem]
  have f10 : w1.frozen? ⟨w.heap.size + 1, 0, none⟩ = false := by
    rw [hf _ _ (by simp <;> omega)]
    try simp [go_sem]
  have c11 : w1.cell? ⟨w.heap.size + 1, 1, none⟩ = some (.int .u64 (hiW B)) := by
    rw [hc _ _ (by simp <;> omega)]
    try simp [go_sem]
  have f11 : w1.frozen? ⟨w.heap.size + 1, 1, none⟩ = false := by
    rw [hf _ _ (by simp <;> omega)]
    try simp [go_sem]
  have c12 : w1.cell? ⟨w.heap.size + 1, 2, none⟩ = some (.int .u64 (loW B)) := by
    rw [hc _ _ (by simp <;> omega)]
    try simp [go_sem]
  have f12 : w1.frozen? ⟨w.heap.size + 1, 2, none⟩ = false := by
    rw [hf _ _ (by simp <;> omega)]
    try simp [go_sem]
  have c20 : w1.cell? ⟨w.heap.size + 1 + 1, 0, none⟩ = some (.bool false) := by
    rw [hc _ _ (by simp <;> omega)]
    try simp [go_sem]
  have f20 : w1.frozen? ⟨w.heap.size + 1 + 1, 0, none⟩ = false := by
    rw [hf _ _ (by simp <;> omega)]
    try simp [go_sem]
  have c21 : w1.cell? ⟨w.heap.size + 1 + 1, 1, none⟩ = some (.int .u64 0) := by
    rw [hc _ _ (by simp <;> omega)]
    try simp [go_sem]
  have f21 : w1.frozen? ⟨w.heap.size + 1 + 1, 1, none⟩ = false := by
    rw [hf _ _ (by simp <;> omega)]
    try simp [go_sem]
  have c22 : w1.cell? ⟨w.heap.size + 1 + 1, 2, none⟩ = some (.int .u64 0) := by
    rw [hc _ _ (by simp <;> omega)]
    try simp [go_sem]
  have f22 : w1.frozen? ⟨w.heap.size + 1 + 1, 2, none⟩ = false := by
    rw [hf _ _ (by simp <;> omega)]
    try simp [go_sem]
  clear hc hf
  go_wp2
  all_goals
   refine bodyPost_ret (v := .agg #[.bool true, .int .u64 (sH A B), .int .u64 (sL A B)]) (by simp [results, Try.results37, go_sem, *]) rfl ⟨rfl, ?_⟩
   repeat (refine Below.setCell ?_ (by first | (simp; done) | (simp; omega)) _)
   exact HB.out
set_option maxHeartbeats 1000000 in
set_option maxRecDepth 100000 in
theorem plus_lt_false (A B : Nat) (w : World) (h : A < B) :
    Calls Try.prog 37 #[.agg #[.bool false, .int .u64 (hiW A), .int .u64 (loW A)], .agg #[.bool true, .int .u64 (hiW B), .int .u64 (loW B)]] w fun e w' => e = .returned (.agg #[.bool true, .int .u64 (sH B A), .int .u64 (sL B A)]) ∧ Below w.heap.size w w' := by
  go_enter Try.func37, Try.ntmps37
  go_wp2_with fail
  refine (isSmaller_t false true A B _ h).mono ?_; rintro e w1 ⟨rfl, hb⟩
  obtain ⟨hc, hf⟩ := bcell hb
  have HB := Lib.hid ((((((Below.refl _ _).alloc (Nat.le_refl _) _).alloc (by simp) _).alloc (by simp; omega) _).trans (hb.mono (by simp; omega)) : Below w.heap.size w w1))
  have hz := hb.size
  simp at hz
  have c00 : w1.cell? ⟨w.heap.size, 0, none⟩ = some (.bool false) := by
    rw [hc _ _ (by simp <;> omega)]
    try simp [go_sem]
  have f00 : w1.frozen? ⟨w.heap.size, 0, none⟩ = false := by
    rw [hf _ _ (by simp <;> omega)]
    try simp [go_sem]
  have c01 : w1.cell? ⟨w.heap.size, 1, none⟩ = some (.int .u64 (hiW A)) := by
    rw [hc _ _ (by simp <;> omega)]
    try simp [go_sem]
  have f01 : w1.frozen? ⟨w.heap.size, 1, none⟩ = false := by
    rw [hf _ _ (by simp <;> omega)]
    try simp [go_sem]
  have c02 : w1.cell? ⟨w.heap.size, 2, none⟩ = some (.int .u64 (loW A)) := by
    rw [hc _ _ (by simp <;> omega)]
    try simp [go_sem]
  have f02 : w1.frozen? ⟨w.heap.size, 2, none⟩ = false := by
    rw [hf _ _ (by simp <;> omega)]
    try simp [go_sem]
  have c10 : w1.cell? ⟨w.heap.size + 1, 0, none⟩ = some (.bool true) := by
    rw [hc _ _ (by simp <;> omega)]
    try simp [go_sem]
  have f10 : w1.frozen? ⟨w.heap.size + 1, 0, none⟩ = false := by
    rw [hf _ _ (by simp <;> omega)]
    try simp [go_sem]
  have c11 : w1.cell? ⟨w.heap.size + 1, 1, none⟩ = some (.int .u64 (hiW B)) := by
    rw [hc _ _ (by simp <;> omega)]
    try simp [go_sem]
  have f11 : w1.frozen? ⟨w.heap.size + 1, 1, none⟩ = false := by
    rw [hf _ _ (by simp <;> omega)]
    try simp [go_sem]
  have c12 : w1.cell? ⟨w.heap.size + 1, 2, none⟩ = some (.int .u64 (loW B)) := by
    rw [hc _ _ (by simp <;> omega)]
    try simp [go_sem]
  have f12 : w1.frozen? ⟨w.heap.size + 1, 2, none⟩ = false := by
    rw [hf _ _ (by simp <;> omega)]
    try simp [go_sem]
  have c20 : w1.cell? ⟨w.heap.size + 1 + 1, 0, none⟩ = some (.bool false) := by
    rw [hc _ _ (by simp <;> omega)]
    try simp [go_sem]
  have f20 : w1.frozen? ⟨w.heap.size + 1 + 1, 0, none⟩ = false := by
    rw [hf _ _ (by simp <;> omega)]
    try simp [go_sem]
  have c21 : w1.cell? ⟨w.heap.size + 1 + 1, 1, none⟩ = some (.int .u64 0) := by
    rw [hc _ _ (by simp <;> omega)]
    try simp [go_sem]
  have f21 : w1.frozen? ⟨w.heap.size + 1 + 1, 1, none⟩ = false := by
    rw [hf _ _ (by simp <;> omega)]
    try simp [go_sem]
  have c22 : w1.cell? ⟨w.heap.size + 1 + 1, 2, none⟩ = some (.int .u64 0) := by
    rw [hc _ _ (by simp <;> omega)]
    try simp [go_sem]
  have f22 : w1.frozen? ⟨w.heap.size + 1 + 1, 2, none⟩ = false := by
    rw [hf _ _ (by simp <;> omega)]
    try simp [go_sem]
  clear hc hf
  go_wp2
  all_goals
   refine bodyPost_ret (v := .agg #[.bool true, .int .u64 (sH B A), .int .u64 (sL B A)]) (by simp [results, Try.results37, go_sem, *]) rfl ⟨rfl, ?_⟩
   repeat (refine Below.setCell ?_ (by first | (simp; done) | (simp; omega)) _)
   exact HB.out
set_option maxHeartbeats 1000000 in
set_option maxRecDepth 100000 in
theorem plus_ge_false (A B : Nat) (w : World) (h : ¬ A < B) :
    Calls Try.prog 37 #[.agg #[.bool false, .int .u64 (hiW A), .int .u64 (loW A)], .agg #[.bool true, .int .u64 (hiW B), .int .u64 (loW B)]] w fun e w' => e = .returned (.agg #[.bool false, .int .u64 (sH A B), .int .u64 (sL A B)]) ∧ Below w.heap.size w w' := by
  go_enter Try.func37, Try.ntmps37
  go_wp2_with fail
  refine (isSmaller_f false true A B _ h).mono ?_; rintro e w1 ⟨rfl, hb⟩
  obtain ⟨hc, hf⟩ := bcell hb
  have HB := Lib.hid ((((((Below.refl _ _).alloc (Nat.le_refl _) _).alloc (by simp) _).alloc (by simp; omega) _).trans (hb.mono (by simp; omega)) : Below w.heap.size w w1))
  have hz := hb.size
  simp at hz
  have c00 : w1.cell? ⟨w.heap.size, 0, none⟩ = some (.bool false) := by
    rw [hc _ _ (by simp <;> omega)]
    try simp [go_sem]
  have f00 : w1.frozen? ⟨w.heap.size, 0, none⟩ = false := by
    rw [hf _ _ (by simp <;> omega)]
    try simp [go_sem]
  have c01 : w1.cell? ⟨w.heap.size, 1, none⟩ = some (.int .u64 (hiW A)) := by
    rw [hc _ _ (by simp <;> omega)]
    try simp [go_sem]
  have f01 : w1.frozen? ⟨w.heap.size, 1, none⟩ = false := by
    rw [hf _ _ (by simp <;> omega)]
    try simp [go_sem]
  have c02 : w1.cell? ⟨w.heap.size, 2, none⟩ = some (.int .u64 (loW A)) := by
    rw [hc _ _ (by simp <;> omega)]
    try simp [go_sem]
  have f02 : w1.frozen? ⟨w.heap.size, 2, none⟩ = false := by
    rw [hf _ _ (by simp <;> omega)]
    try simp [go_sem]
  have c10 : w1.cell? ⟨w.heap.size + 1, 0, none⟩ = some (.bool true) := by
    rw [hc _ _ (by simp <;> omega)]
    try simp [go_sem]
  have f10 : w1.frozen? ⟨w.heap.size + 1, 0, none⟩ = false := by
    rw [hf _ _ (by simp <;> omega)]
    try simp [go_sem]
  have c11 : w1.cell? ⟨w.heap.size + 1, 1, none⟩ = some (.int .u64 (hiW B)) := by
    rw [hc _ _ (by simp <;> omega)]
    try simp [go_sem]
  have f11 : w1.frozen? ⟨w.heap.size + 1, 1, none⟩ = false := by
    rw [hf _ _ (by simp <;> omega)]
    try simp [go_sem]
  have c12 : w1.cell? ⟨w.heap.size + 1, 2, none⟩ = some (.int .u64 (loW B)) := by
    rw [hc _ _ (by simp <;> omega)]
    try simp [go_sem]
  have f12 : w1.frozen? ⟨w.heap.size + 1, 2, none⟩ = false := by
    rw [hf _ _ (by simp <;> omega)]
    try simp [go_sem]
  have c20 : w1.cell? ⟨w.heap.size + 1 + 1, 0, none⟩ = some (.bool false) := by
    rw [hc _ _ (by simp <;> omega)]
    try simp [go_sem]
  have f20 : w1.frozen? ⟨w.heap.size + 1 + 1, 0, none⟩ = false := by
    rw [hf _ _ (by simp <;> omega)]
    try simp [go_sem]
  have c21 : w1.cell? ⟨w.heap.size + 1 + 1, 1, none⟩ = some (.int .u64 0) := by
    rw [hc _ _ (by simp <;> omega)]
    try simp [go_sem]
  have f21 : w1.frozen? ⟨w.heap.size + 1 + 1, 1, none⟩ = false := by
    rw [hf _ _ (by simp <;> omega)]
    try simp [go_sem]
  have c22 : w1.cell? ⟨w.heap.size + 1 + 1, 2, none⟩ = some (.int .u64 0) := by
    rw [hc _ _ (by simp <;> omega)]
    try simp [go_sem]
  have f22 : w1.frozen? ⟨w.heap.size + 1 + 1, 2, none⟩ = false := by
    rw [hf _ _ (by simp <;> omega)]
    try simp [go_sem]
  clear hc hf
  go_wp2
  all_goals
   refine bodyPost_ret (v := .agg #[.bool false, .int .u64 (sH A B), .int .u64 (sL A B)]) (by simp [results, Try.results37, go_sem, *]) rfl ⟨rfl, ?_⟩
   repeat (refine Below.setCell ?_ (by first | (simp; done) | (simp; omega)) _)
   exact HB.out
end Go.Proofs.Ytomdoamfdidghaa
