/- The states of a ripple, on the side of the program. -/
import Derived.Test.YthkooboiacajeabRipCore
namespace Go.Proofs.Ythkooboiacajeab
open Go.RowKit

theorem implRip_t (b x : Int) (w : World) (h : StateOk b x) :
    Calls Try.prog 7 #[.int .i64 b, .int .i64 x] w fun e w' => ∃ v, e = .returned (.tuple #[v, .bool true]) ∧ Ints w' w.heap.size v (ints (ripGo b.toNat 0 x.toNat)) ∧ Below w.heap.size w w' := by
  have hb := st_bd b h.1 h.2.1
  obtain ⟨n, rfl⟩ := Int.eq_ofNat_of_zero_le h.2.2.1
  obtain ⟨m, rfl⟩ := Int.eq_ofNat_of_zero_le (show 0 ≤ b by have := h.1; omega)
  have hn : n < 256 := by have := h.2.2.2; omega
  have hm : m ≤ 8 := by have := h.2.1; omega
  have HH := Lib.hid h
  clear h
  rw [Int.toNat_natCast, Int.toNat_natCast]
  go_enter Try.func7, Try.ntmps7
  go_wp2_with fail
  refine (has_t _ _ _ HH.out).mono ?_; rintro e w' ⟨rfl, rfl⟩
  go_wp2_with fail
  refine (implRipple m n _ hm hn).mono ?_; rintro e w1 ⟨v, rfl, hi, hb1⟩
  go_wp2
  go_ret2
  exact ⟨_, rfl, hi, hb1⟩
end Go.Proofs.Ythkooboiacajeab
