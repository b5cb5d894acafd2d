/- Is a counter valid, on the side of the program. -/
import Derived.Test.YtomdoamfdidghabIsCtrA
import Derived.Test.YtomdoamfdidghabCtrArg
import Derived.Deep.RegionWith
namespace Go.Proofs.Ytomdoamfdidghab
open Go.RowKit
theorem bw {B : Nat} {a w : World} (h : Below B a w) (n : Nat) : Below B a (w.drewN n) := ⟨h.os, h.tape, h.output, h.size, h.block⟩

set_option maxHeartbeats 1000000 in
set_option maxRecDepth 100000 in
theorem implValidCtr (b : Int) (a : Option Addr) (n cap : Nat) (l : List Int) (w : World) (hn : n = l.length) (hl : n ≤ 1048576) (hr : RowOf w a l) (hlt : ∀ g, a = some ⟨g, 0, none⟩ → g < w.heap.size) :
    Calls Try.prog 33 #[.agg #[.int .i64 b, .slice a n cap]] w fun e w' => e = .returned (.bool (ctrB b l)) ∧ Below w.heap.size w w' := by
  have HN := Lib.hid hn
  have hr2 : RowOf (w.alloc (.cells #[.int .i64 b, .slice a n cap] 28)) a l := fun k hk => by
    obtain ⟨g, h1, h2⟩ := hr k hk
    exact ⟨g, h1, (((Below.refl w.heap.size w).alloc (Nat.le_refl _) _).cell (p := ⟨g, k, none⟩) (hlt g h1)).trans h2⟩
  have HR := Lib.hid hr2
  clear hr hr2 hlt
  have HBW : Below w.heap.size w (w.alloc (.cells #[.int .i64 b, .slice a n cap] 28)) := (Below.refl _ _).alloc (Nat.le_refl _) _
  by_cases hb : b < 1 ∨ 8 < b
  · rw [ctrB_bits b l hb]
    clear hn
    go_enter Try.func33, Try.ntmps33
    go_wp2
    go_quiet ((go_at_call 41; exact quiet_eqc (isValid_f _ _ hb)))
    go_wp2
    go_ret
    exact ⟨rfl, bw HBW _⟩
  · have h1 : 1 ≤ b := by omega
    have h2 : b ≤ 8 := by omega
    have hsb := st_bd b h1 h2
    by_cases hlen : (n : Int) = st b
    · rw [ctrB_all b l h1 h2 (by rw [← hn]; exact hlen)]
      have hne : ((n : Int) != st b) = false := by simp [hlen]
      clear hn hlen hb
      go_enter Try.func33, Try.ntmps33
      go_wp2
      go_quiet (first | (go_at_call 41; exact quiet_eqc (isValid_t _ _ h1 h2)) | (go_at_call 42; exact quiet_eqc (states_any _ _ h1 h2)))
      go_wp2
      go_loopw [5, 22] (fun _ i wr => ∃ k : Nat, k ≤ n ∧ i = .int .i64 (k : Int) ∧ (l.take k).all (stB b) = true ∧ ∃ q, wr = (w.alloc (.cells #[.int .i64 b, .slice a n cap] 28)).drewN q) (fun _ i _ => n - (intOf i).toNat)
      case atStart => exact ⟨0, Nat.zero_le _, rfl, by simp, _, rfl⟩
      case round =>
        obtain ⟨k, hk, rfl, h0, q, rfl⟩ := hrel
        have H0 := Lib.hid h0
        clear h0
        by_cases hlt : k < n
        · have hkl : k < l.length := by have := HN.out; omega
          obtain ⟨g, rfl, hc⟩ := HR.out k hkl
          obtain ⟨y, hy⟩ : ∃ y, l[k] = y := ⟨_, rfl⟩
          rw [hy] at hc
          by_cases hs : StateOk b y
          · have HE := Lib.hid (all_stepB (stB b) l k hkl H0.out (by rw [hy]; unfold stB; exact decide_eq_true ⟨hs.2.2.1, hs.2.2.2⟩))
            have HS := Lib.hid hs
            clear hy hs hkl
            go_wp2_with fail
            refine (has_t _ _ _ HS.out).mono ?_; rintro e w' ⟨rfl, rfl⟩
            go_wp2
            go_roundw
            case rel => exact ⟨k + 1, by omega, by go_num, HE.out, _, rfl⟩
            case measure => simp [intOf]; omega
          · have HE := Lib.hid (all_badB (stB b) l k hkl (by rw [hy]; unfold stB; exact decide_eq_false fun h => hs ⟨h1, h2, h.1, h.2⟩))
            have HS := Lib.hid hs
            clear hy hs hkl
            go_wp2_with fail
            refine (has_f _ _ _ HS.out).mono ?_; rintro e w' ⟨rfl, rfl⟩
            go_wp2
            go_ret
            exact ⟨ret_bool HE.out.symm, bw HBW _⟩
        · have HE := Lib.hid (all_endB (stB b) l k (by have := HN.out; omega) H0.out)
          go_wp2
          go_ret
          exact ⟨ret_bool HE.out.symm, bw HBW _⟩
    · rw [ctrB_len b l (by rw [← hn]; exact hlen)]
      have hne : ((n : Int) != st b) = true := by simp [hlen]
      clear hn hlen hb
      go_enter Try.func33, Try.ntmps33
      go_wp2
      go_quiet (first | (go_at_call 41; exact quiet_eqc (isValid_t _ _ h1 h2)) | (go_at_call 42; exact quiet_eqc (states_any _ _ h1 h2)))
      go_wp2
      go_ret
      exact ⟨rfl, bw HBW _⟩

end Go.Proofs.Ytomdoamfdidghab
