/- Contracts: is a number in a list, on both sides. -/
import Derived.Test.YtmhkeiccemfpeaaDoorInts
namespace Go.Proofs.YtmhkeiccemfpeaaDoor
open Go.RowKit

/-- the slice at a holds the numbers l -/
def RowAt (w : World) (a : Option Addr) (l : List Int) : Prop := ∀ k (hk : k < l.length), ∃ g, a = some ⟨g, 0, none⟩ ∧ w.cell? ⟨g, k, none⟩ = some (.int .i64 l[k])
theorem Ints.row {w : World} {B n cap : Nat} {a : Option Addr} {l : List Int} (h : Ints w B (.slice a n cap) l) : RowAt w a l ∧ l.length ≤ maxLen ∧ (l ≠ [] → n ≤ cap) ∧ n = l.length := by
  obtain ⟨a', cap', hv, hm, hk⟩ := h.form
  simp only [Value.slice.injEq] at hv
  obtain ⟨rfl, rfl, rfl⟩ := hv
  refine ⟨fun k hlt => ?_, hm, fun hne => ?_, rfl⟩
  · obtain ⟨g, h1, _, _, h2, _⟩ := hk k hlt
    exact ⟨g, h1, h2⟩
  · rcases h with ⟨_, ⟨h1, h2⟩ | ⟨g, cap1, cur, hv, _, _, hc, _⟩⟩
    · exact absurd (List.length_eq_zero_iff.1 h2) hne
    · simp only [Value.slice.injEq] at hv
      omega
theorem RowAt.prefix {w : World} {a : Option Addr} {l : List Int} (h : RowAt w a l) : RowAt w a l.dropLast := fun k hk => by
  rw [List.length_dropLast] at hk
  obtain ⟨g, h1, h2⟩ := h k (by omega)
  exact ⟨g, h1, by rw [List.getElem_dropLast]; exact h2⟩
def hasB (l : List Int) (x : Int) : Bool := l.contains x
theorem has_hit (l : List Int) (x : Int) (k : Nat) (hk : k < l.length) (h : l[k] = x) : hasB l x = true := by
  unfold hasB; rw [List.contains_iff_mem, ← h]; exact List.getElem_mem hk
theorem has_step (l : List Int) (x : Int) (k : Nat) (hk : k < l.length) (h0 : hasB (l.take k) x = false) (h : l[k] ≠ x) : hasB (l.take (k + 1)) x = false := by
  unfold hasB at *; rw [List.take_succ_eq_append_getElem hk, List.contains_append, h0]
  simp; exact fun e => h e.symm
theorem has_end (l : List Int) (x : Int) (k : Nat) (hk : l.length ≤ k) (h0 : hasB (l.take k) x = false) : hasB l x = false := by
  rw [List.take_of_length_le hk] at h0; exact h0

set_option maxRecDepth 100000 in
theorem l00Has_any (a : Option Addr) (l : List Int) (n cap : Nat) (x : Int) (w : World) (hn : n = l.length) (h : RowAt w a l) (hl : l.length ≤ maxLen) :
    Calls Tryd.prog 34 #[.slice a n cap, .int .i64 x] w fun e w' => e = .returned (.bool (hasB l x)) ∧ w = w' := by
  unfold maxLen at hl
  have HH := Lib.hid h
  have HN := Lib.hid hn
  rw [← hn] at hl
  clear h hn
  go_enter Tryd.func34, Tryd.ntmps34
  go_wp2
  go_loop [5] (fun i => ∃ k : Nat, k ≤ n ∧ i = .int .i64 (k : Int) ∧ hasB (l.take k) x = false) (fun i => n - (intOf i).toNat)
  case atStart => exact ⟨0, Nat.zero_le _, rfl, by simp [hasB]⟩
  case round =>
    obtain ⟨k, hk, rfl, h0⟩ := hrel
    have H0 := Lib.hid h0
    clear h0
    by_cases hlt : k < n
    · obtain ⟨g, rfl, hc⟩ := HH.out k (by have := HN.out; omega)
      obtain ⟨y, hy⟩ : ∃ y, l[k]'(by have := HN.out; omega) = y := ⟨_, rfl⟩
      rw [hy] at hc
      by_cases he : y = x
      · have HE := Lib.hid (has_hit l x k (by have := HN.out; omega) (by rw [hy]; exact he))
        have t1 : (y == x) = true := by simp [he]
        clear hy he
        go_wp2
        go_ret
        exact ⟨ret_bool HE.out.symm, rfl⟩
      · have HE := Lib.hid (has_step l x k (by have := HN.out; omega) H0.out (by rw [hy]; exact he))
        have t1 : (y == x) = false := by simp [he]
        clear hy he
        go_wp2
        go_round
        case rel => exact ⟨k + 1, by omega, by go_num, HE.out⟩
        case measure => simp [intOf]; omega
    · have HE := Lib.hid (has_end l x k (by have := HN.out; omega) H0.out)
      go_wp2
      go_ret
      exact ⟨ret_bool HE.out.symm, rfl⟩

set_option maxRecDepth 100000 in
theorem index_any (a : Option Addr) (l : List Int) (n cap : Nat) (x : Int) (w : World) (hn : n = l.length) (h : RowAt w a l) (hl : l.length ≤ maxLen) :
    Calls Tryd.prog 48 #[.slice a n cap, .int .i64 x] w fun e w' => ∃ i : Int, e = .returned (.int .i64 i) ∧ -1 ≤ i ∧ decide (0 ≤ i) = hasB l x ∧ w = w' := by
  unfold maxLen at hl
  have HH := Lib.hid h
  have HN := Lib.hid hn
  rw [← hn] at hl
  clear h hn
  go_enter Tryd.func48, Tryd.ntmps48
  go_wp2
  go_loop [5, 8] (fun _ i => ∃ k : Nat, k ≤ n ∧ i = .int .i64 (k : Int) ∧ hasB (l.take k) x = false) (fun _ i => n - (intOf i).toNat)
  case atStart => exact ⟨0, Nat.zero_le _, rfl, by simp [hasB]⟩
  case round =>
    obtain ⟨k, hk, rfl, h0⟩ := hrel
    have H0 := Lib.hid h0
    clear h0
    by_cases hlt : k < n
    · obtain ⟨g, rfl, hc⟩ := HH.out k (by have := HN.out; omega)
      obtain ⟨y, hy⟩ : ∃ y, l[k]'(by have := HN.out; omega) = y := ⟨_, rfl⟩
      rw [hy] at hc
      by_cases he : y = x
      · have HE := Lib.hid (has_hit l x k (by have := HN.out; omega) (by rw [hy]; exact he))
        have t1 : (x == y) = true := by simp [he]
        clear hy he
        go_wp2
        go_ret
        exact ⟨k, rfl, by omega, by rw [HE.out, decide_eq_true (by omega)], rfl⟩
      · have HE := Lib.hid (has_step l x k (by have := HN.out; omega) H0.out (by rw [hy]; exact he))
        have t1 : (x == y) = false := by simp; exact fun e => he e.symm
        clear hy he
        go_wp2
        go_round
        case rel => exact ⟨k + 1, by omega, by go_num, HE.out⟩
        case measure => simp [intOf]; omega
    · have HE := Lib.hid (has_end l x k (by have := HN.out; omega) H0.out)
      go_wp2
      go_ret
      exact ⟨-1, rfl, by omega, by rw [HE.out]; rfl, rfl⟩
theorem contains_any (a : Option Addr) (l : List Int) (n cap : Nat) (x : Int) (w : World) (hn : n = l.length) (h : RowAt w a l) (hl : l.length ≤ maxLen) :
    Calls Tryd.prog 41 #[.slice a n cap, .int .i64 x] w fun e w' => e = .returned (.bool (hasB l x)) ∧ w = w' := by
  have HC := Lib.hid (fun w h => index_any a l n cap x w hn h hl)
  have HH := Lib.hid h
  clear h hn hl
  go_enter Tryd.func41, Tryd.ntmps41
  go_wp2_with fail
  refine (HC.out _ HH.out).mono ?_; rintro e w' ⟨i, rfl, hi, hd, rfl⟩
  have HD := Lib.hid hd
  clear hd
  go_wp2
  go_ret
  exact ⟨ret_bool HD.out, rfl⟩
end Go.Proofs.YtmhkeiccemfpeaaDoor
