/- The law: levels that two waves make come from both, the other levels of the other levels are the wave, a wave that comes later is the wave from this tick on. -/
import Derived.Test.YtmhbgpappjfolaaJoinMath
import Derived.BigQuiet
import Derived.Deep.QuietTactic
import Derived.Deep.CutRange
namespace Go.Proofs.Ytmhbgpappjfolaa
open Go.RowKit
set_option linter.unusedVariables false

theorem below_then {w w1 w2 : World} (h1 : Below w.heap.size w w1) (h2 : Below w1.heap.size w1 w2) : Below w.heap.size w w2 :=
  h1.trans ⟨h2.os, h2.tape, h2.output, h2.size, fun k hk => h2.block k (Nat.lt_of_lt_of_le hk h1.size)⟩
theorem wave_s (a : Option Addr) (n cap : Nat) (l : List Int) (w : World) (hn : n = l.length) (hm : n ≤ 1048576) (hr : ByteRow w a l) :
    Calls Try.prog 18 #[.slice a n cap] w fun e w' => ∃ (s : ByteArray), e = .returned (.string s) ∧ (∃ A, s = txt A ∧ Lv A) ∧ s.size ≤ 40 ∧ Below w.heap.size w w' := by
  refine (wave_any a n cap l w hn hm hr).mono ?_
  rintro e w1 ⟨bs, he, hL, hle, hb⟩
  exact ⟨txt bs, he, ⟨bs, rfl, hL⟩, by rw [txt_size]; exact hle, hb⟩
theorem levels_s (a : Option Addr) (n cap : Nat) (l : List Int) (T : Nat) (w : World) (hn : n = l.length) (hm : n ≤ 1048576) (hr : ByteRow w a l) (hT : T ≤ 40) :
    Calls Try.prog 19 #[.slice a n cap, .int .i64 (T : Int)] w fun e w' => ∃ (s : ByteArray), e = .returned (.string s) ∧ (∃ A, s = txt A ∧ Lv A) ∧ s.size = T ∧ Below w.heap.size w w' := by
  refine (levels_any a n cap l T w hn hm hr hT).mono ?_
  rintro e w1 ⟨bs, he, hL, hle, hb⟩
  exact ⟨txt bs, he, ⟨bs, rfl, hL⟩, by rw [txt_size]; exact hle, hb⟩
theorem run_join (op : Nat) (s u : ByteArray) (A B : List UInt8) (hs : s = txt A) (hu : u = txt B) (hop : op ≤ 3) (hA : Lv A) (hB : Lv B) (hl : s.size ≤ 40) (hsu : u.size = s.size) (w : World) :
    Calls Try.prog 16 #[.int .i64 (op : Int), .string s, .string u] w fun e w' => ∃ c, e = .returned (.tuple #[.string c, .bool true]) ∧ c = txt (joinL (op : Int) A B) ∧ Below w.heap.size w w' := by
  subst hs hu
  rw [txt_size] at hl
  rw [txt_size, txt_size] at hsu
  have h := implJoin_t (op : Int) (txt A) (txt B) w (by omega) (by omega) (by rw [txt_size]; unfold maxLen; omega) (by rw [txt_size]; unfold maxLen; omega) (txt_wave A hA (by omega)) (txt_wave B hB (by omega)) (by rw [txt_size, txt_size, hsu])
  rw [txt_list, txt_list] at h
  exact h.mono (fun e w' h => ⟨_, h.1, rfl, h.2⟩)
theorem run_not (s : ByteArray) (A : List UInt8) (hs : s = txt A) (hA : Lv A) (hl : s.size ≤ 40) (w : World) :
    Calls Try.prog 21 #[.string s] w fun e w' => ∃ c, e = .returned (.tuple #[.string c, .bool true]) ∧ c = txt (notL A) ∧ Below w.heap.size w w' := by
  subst hs
  rw [txt_size] at hl
  have h := implNot_t (txt A) w (by rw [txt_size]; unfold maxLen; omega) (txt_wave A hA (by omega))
  rw [txt_list] at h
  exact h.mono (fun e w' h => ⟨_, h.1, rfl, h.2⟩)
theorem run_back (s x : ByteArray) (A : List UInt8) (hs : s = txt A) (hx : x = txt (notL A)) (hA : Lv A) (hl : s.size ≤ 40) (w : World) :
    Calls Try.prog 21 #[.string x] w fun e w' => e = .returned (.tuple #[.string s, .bool true]) ∧ Below w.heap.size w w' := by
  subst hs
  rw [txt_size] at hl
  refine (run_not x (notL A) hx (lv_not hA) (by rw [hx, txt_size, not_len]; exact hl) w).mono ?_
  rintro e w' ⟨c, he, hc, hb⟩
  rw [not_not A hA] at hc
  subst hc
  exact ⟨he, hb⟩
theorem run_later (s : ByteArray) (A : List UInt8) (t : Nat) (hs : s = txt A) (hA : Lv A) (hl : s.size ≤ 40) (ht : t ≤ 400) (w : World) :
    Calls Try.prog 22 #[.string s, .int .i64 (t : Int)] w fun e w' => ∃ c, e = .returned (.tuple #[.string c, .bool true]) ∧ c = txt (delL t A A.length) ∧ Below w.heap.size w w' := by
  subst hs
  rw [txt_size] at hl
  have h := implDelay_t (txt A) t w (by rw [txt_size]; unfold maxLen; omega) ht (txt_wave A hA (by omega))
  rw [txt_list, txt_size] at h
  exact h.mono (fun e w' h => ⟨_, h.1, rfl, h.2⟩)
theorem run_twice (s : ByteArray) (A : List UInt8) (hs : s = txt A) (hA : Lv A) (hl : s.size ≤ 40) (w : World) :
    Calls Try.prog 23 #[.string s, .int .i64 2] w fun e w' => e = .returned (.tuple #[.string (s ++ s), .bool true]) ∧ Below w.heap.size w w' := by
  subst hs
  rw [txt_size] at hl
  have h := implRepeat_t (txt A) 2 w (by rw [txt_size]; unfold maxLen; omega) (txt_wave A hA (by omega)) (by omega) (by rw [txt_size]; omega) (by rw [txt_size]; omega)
  rw [rep_two] at h
  exact h
/-- what the law holds against each other, at one tick -/
structure Tick (op t k : Nat) (a b c x y : ByteArray) : Prop where
  ka : k < a.size
  kb : k < b.size
  kc : k < c.size
  kx : k < x.size
  ky : k < y.size
  va : a[k] = 48 ∨ a[k] = 49
  vb : b[k] = 48 ∨ b[k] = 49
  vc : c[k] = joinB (op : Int) a[k] b[k]
  vx : x[k] = 97 - a[k]
  vy : k < t → y[k] = 48
  vz : ∀ j (h : k = t + j), y[k] = a[j]
theorem tick_all (op t k : Nat) (s u c x y : ByteArray) (A B : List UInt8) (hs : s = txt A) (hu : u = txt B) (hc : c = txt (joinL (op : Int) A B)) (hx : x = txt (notL A)) (hy : y = txt (delL t A A.length)) (hA : Lv A) (hB : Lv B) (hsu : u.size = s.size) (hk : k < s.size) : Tick op t k s u c x y := by
  subst hs hu hc hx hy
  rw [txt_size, txt_size] at hsu
  rw [txt_size] at hk
  have h1 := join_len (op : Int) A B hsu
  have h2 := not_len A
  have h3 := delL_len t A A.length
  have ka : k < (txt A).size := by rw [txt_size]; omega
  have kb : k < (txt B).size := by rw [txt_size]; omega
  have kc : k < (txt (joinL (op : Int) A B)).size := by rw [txt_size]; omega
  have kx : k < (txt (notL A)).size := by rw [txt_size]; omega
  have ky : k < (txt (delL t A A.length)).size := by rw [txt_size]; omega
  have ea := txt_at A k ka hk
  have eb := txt_at B k kb (by omega)
  have ec := txt_at _ k kc (by omega)
  have ex := txt_at _ k kx (by omega)
  have ey := txt_at _ k ky (by omega)
  refine ⟨ka, kb, kc, kx, ky, ?_, ?_, ?_, ?_, ?_, ?_⟩
  · have h := lv_at hA k hk
    rw [← ea] at h; exact h
  · have h := lv_at hB k (by omega)
    rw [← eb] at h; exact h
  · have h := join_at (op : Int) A B k hk (by omega) (by omega)
    rw [← ea, ← eb, ← ec] at h; exact h
  · have h := not_at A k hk (by omega)
    rw [← ea, ← ex] at h; exact h
  · intro hkt
    have h := del_at t A A.length k (by omega)
    rw [if_pos hkt, ← ey] at h; exact h
  · intro j hj
    have h := del_at t A A.length k (by omega)
    have hjA : j < A.length := by omega
    have ej := txt_at A j (by rw [txt_size]; omega) hjA
    rw [if_neg (by omega), show k - t = j by omega, List.getD_eq_getElem?_getD, List.getElem?_eq_getElem hjA, ← ey] at h
    exact h.trans ej.symm
theorem sizes_all (op t : Nat) (s u c x y : ByteArray) (A B : List UInt8) (hs : s = txt A) (hu : u = txt B) (hc : c = txt (joinL (op : Int) A B)) (hx : x = txt (notL A)) (hy : y = txt (delL t A A.length)) (hsu : u.size = s.size) : c.size = s.size ∧ x.size = s.size ∧ y.size = s.size := by
  subst hs hu hc hx hy
  rw [txt_size, txt_size] at hsu
  refine ⟨?_, ?_, ?_⟩
  · rw [txt_size, txt_size, join_len _ _ _ hsu]
  · rw [txt_size, txt_size, not_len]
  · rw [txt_size, txt_size, delL_len]

set_option maxHeartbeats 8000000 in
set_option maxRecDepth 100000 in
theorem walk_Joined0 (a : Option Addr) (n cap : Nat) (l : List Int) (a2 : Option Addr) (n2 cap2 : Nat) (l2 : List Int) (w : World) (hn : n = l.length) (hr : ByteRow w a l) (hm : n ≤ maxLen) (hn2 : n2 = l2.length) (hr2 : ByteRow w a2 l2) (hm2 : n2 ≤ maxLen) (hopv : b10V l2 0 4 = 0) :
    Calls Try.prog 4 #[.slice a n cap, .slice a2 n2 cap2] w fun e w' => e = .returned (.bool true) ∧ Below w.heap.size w w' := by
  by_cases hlong : n ≤ 1048576 ∧ n2 ≤ 1048576
  · obtain ⟨k1, k2⟩ := hlong
    have HLO := Lib.hid (fun w => b10Long_any a a2 n cap n2 cap2 w)
    rw [decide_eq_false (show ¬ 1048576 < n by omega), decide_eq_false (show ¬ 1048576 < n2 by omega)] at HLO
    have hv0 := b10V_bd l2 0 4 (by omega)
    have hv1 := b10V_bd l2 1 12 (by omega)
    have HW := Lib.hid (wave_s a n cap l w hn k1 hr)
    have HL := Lib.hid (fun T w' (hr : ByteRow w' a2 l2) (hT : T ≤ 40) => levels_s a2 n2 cap2 l2 T w' hn2 k2 hr hT)
    have HV0 := Lib.hid (fun w' (hr : ByteRow w' a2 l2) => b10At_any a2 n2 cap2 l2 0 4 w' hn2 hr (by omega) (by omega) (by omega))
    have HV1 := Lib.hid (fun w' (hr : ByteRow w' a2 l2) => b10At_any a2 n2 cap2 l2 1 12 w' hn2 hr (by omega) (by omega) (by omega))
    obtain ⟨t, e1⟩ := Int.eq_ofNat_of_zero_le hv1.1
    rw [hopv] at HV0
    rw [e1] at HV1 hv1
    have ht : t ≤ 11 := by omega
    have HR2 := Lib.hid hr2
    clear e1 hv0 hv1 hopv hn hr hn2 hr2
    go_enter Try.func4, Try.ntmps4
    go_wp2_with fail
    refine (HLO.out _).mono ?_; rintro e w' ⟨rfl, rfl⟩
    go_wp2_with fail
    refine HW.out.mono ?_; rintro e w1 ⟨s, rfl, ⟨A, hsA, hA⟩, hs40, b1⟩
    have hR3 := Lib.hid (HR2.out.keep b1 (Nat.le_refl _))
    have HA := Lib.hid hA
    have HSA := Lib.hid hsA
    obtain ⟨N, hN⟩ : ∃ N, s.size = N := ⟨_, rfl⟩
    rw [hN] at hs40
    have HB1 := Lib.hid b1
    clear hA hsA b1 HR2 HW
    go_wp2_with fail
    refine (HL.out N _ hR3.out hs40).mono ?_; rintro e w2 ⟨u, rfl, ⟨B, huB, hB⟩, hu, b2⟩
    have hR4 := Lib.hid (hR3.out.keep b2 (Nat.le_refl _))
    have HB := Lib.hid hB
    have HUB := Lib.hid huB
    have HB2 := Lib.hid (below_then HB1.out b2)
    clear hB huB b2 HB1 hR3 HL
    go_wp2_with fail
    refine (HV0.out _ hR4.out).mono ?_; rintro e w' ⟨rfl, rfl⟩
    go_wp2_with fail
    refine (HV1.out _ hR4.out).mono ?_; rintro e w' ⟨rfl, rfl⟩
    go_wp2_with fail
    refine (run_join 0 s u A B HSA.out HUB.out (by decide) HA.out HB.out (by omega) (by omega) _).mono ?_; rintro e w3 ⟨c, rfl, hc, b3⟩
    have HC := Lib.hid hc
    have HB3 := Lib.hid (below_then HB2.out b3)
    clear hc b3 HB2
    go_wp2_with fail
    refine (run_not s A HSA.out HA.out (by omega) _).mono ?_; rintro e w4 ⟨x, rfl, hx, b4⟩
    have HX := Lib.hid hx
    have HB4 := Lib.hid (below_then HB3.out b4)
    clear hx b4 HB3
    go_wp2_with fail
    refine (run_back s x A HSA.out HX.out HA.out (by omega) _).mono ?_; rintro e w5 ⟨rfl, b5⟩
    have HB5 := Lib.hid (below_then HB4.out b5)
    clear b5 HB4
    go_wp2_with fail
    refine (run_later s A t HSA.out HA.out (by omega) (by omega) _).mono ?_; rintro e w6 ⟨y, rfl, hy, b6⟩
    have HY := Lib.hid hy
    have HB6 := Lib.hid (below_then HB5.out b6)
    clear hy b6 HB5
    go_wp2_with fail
    refine (run_twice s A HSA.out HA.out (by omega) _).mono ?_; rintro e w7 ⟨rfl, b7⟩
    have HB7 := Lib.hid (below_then HB6.out b7)
    clear b7 HB6
    obtain ⟨hc, hx, hy⟩ := sizes_all 0 t s u c x y A B HSA.out HUB.out HC.out HX.out HY.out (by omega)
    have HT := Lib.hid (fun k (hk : k < N) => tick_all 0 t k s u c x y A B HSA.out HUB.out HC.out HX.out HY.out HA.out HB.out (by omega) (by omega))
    rw [hN] at hc hx hy
    have hlen : s.size + s.size ≤ maxLen := by rw [hN]; unfold maxLen; omega
    clear HSA HUB HC HX HY HA HB HV0 HV1
    go_wp2
    go_loopw [20, 21, 22, 23] (fun iv _ _ _ wr => ∃ i : Nat, iv = .int .i64 (i : Int) ∧ i ≤ N ∧ Below w.heap.size w wr) (fun iv _ _ _ _ => N - (intOf iv).toNat)
    case atStart => exact ⟨0, rfl, Nat.zero_le _, HB7.out⟩
    case round =>
      obtain ⟨i, rfl, hi, hbw⟩ := hrel
      have HBW := Lib.hid hbw
      clear hbw HB7
      by_cases hlt : i < N
      · have hlti : (i : Int) < (N : Int) := by omega
        obtain ⟨ka, kb, kc, kx, ky, va, vb, vc, vx, vy, vz⟩ := HT.out i hlt
        have VY := Lib.hid vy
        have VZ := Lib.hid vz
        have hBW2 := HBW.out.size
        obtain ⟨P, hP⟩ : ∃ P, ((s[i].toNat : Int) == 49) = P := ⟨_, rfl⟩
        obtain ⟨Q, hQ⟩ : ∃ Q, ((u[i].toNat : Int) == 49) = Q := ⟨_, rfl⟩
        obtain ⟨C, hC⟩ : ∃ C, ((c[i].toNat : Int) == 49) = C := ⟨_, rfl⟩
        have HJ := Lib.hid (show joinZ 0 P Q = C from by
          rw [← hP, ← hQ, ← hC, vc]; rcases va with va | va <;> rcases vb with vb | vb <;> (rw [va, vb]; decide))
        have hX : ((x[i].toNat : Int) == 49) = !P := by
          rw [← hP, vx]; rcases va with va | va <;> (rw [va]; decide)
        have hP2 : decide ((s[i].toNat : Int) = 49) = P := hP
        have hQ2 : decide ((u[i].toNat : Int) = 49) = Q := hQ
        have hC2 : decide ((c[i].toNat : Int) = 49) = C := hC
        have hX2 : decide ((x[i].toNat : Int) = 49) = !P := hX
        clear vy vz va vb vc vx
        go_upto_region 20 with fail
        go_cut [23] from 114 to 185 (fun v wx => v = .bool C ∧ Below w.heap.size w wx)
        case first =>
          cases P <;> cases Q <;> (go_wp2; go_meet; exact ⟨by rw [← HJ.out]; rfl, HBW.out.alloc (by omega) _⟩)
        case rest =>
          obtain ⟨rfl, hbx⟩ := hcut
          have HBX := Lib.hid hbx
          clear hbx HBW
          by_cases hit : i < t
          · have zy : (y[i].toNat : Int) = 48 := by rw [VY.out hit]; decide
            have hit2 : (i : Int) < (t : Int) := by omega
            have hit3 : ¬ (t : Int) ≤ (i : Int) := by omega
            have hit4 : decide ((t : Int) ≤ (i : Int)) = false := decide_eq_false hit3
            have hit5 : decide ((i : Int) < (t : Int)) = true := decide_eq_true hit2
            have hit6 : decide ((i : Int) ≥ (t : Int)) = false := decide_eq_false hit3
            have hit7 : decide (t ≤ i) = false := decide_eq_false (by omega)
            have hit8 : ¬ t ≤ i := by omega
            go_wp2
            go_quiet (fail)
            go_wp2
            go_roundw
            case rel => exact ⟨i + 1, by go_num, by omega, below_dsr HBX.out _⟩
            case measure => simp [intOf]; omega
          · obtain ⟨j, hj0⟩ : ∃ j, i = t + j := ⟨i - t, by omega⟩
            have hj : j < s.size := by omega
            have hji : (j : Int) < (N : Int) := by omega
            have zy : (y[i].toNat : Int) = (s[j].toNat : Int) := by rw [VZ.out j hj0]
            have hit2 : ¬ (i : Int) < (t : Int) := by omega
            have hit3 : (t : Int) ≤ (i : Int) := by omega
            have hit4 : decide ((i : Int) < (t : Int)) = false := decide_eq_false hit2
            have hit5 : decide ((t : Int) ≤ (i : Int)) = true := decide_eq_true hit3
            have wj : IntKind.i64.wrap ((i : Int) - (t : Int)) = (j : Int) := by rw [show (i : Int) - (t : Int) = (j : Int) by omega]; exact IntWalk.i64_in _ (by omega)
            have wj2 : IntKind.i64.wrap (j : Int) = (j : Int) := IntWalk.i64_in _ (by omega)
            clear hj0
            go_wp2
            go_quiet (fail)
            go_wp2
            go_roundw
            case rel => exact ⟨i + 1, by go_num, by omega, below_dsr HBX.out _⟩
            case measure => simp [intOf]; omega
      · have hlti : ¬ (i : Int) < (N : Int) := by omega
        go_wp2
        go_ret
        exact ⟨rfl, HBW.out⟩
  · have HLO := Lib.hid (fun w => b10Long_any a a2 n cap n2 cap2 w)
    have hb : (decide (1048576 < n) || decide (1048576 < n2)) = true := by simp; omega
    rw [hb] at HLO
    clear hr hr2 hn hn2 hb hlong
    go_enter Try.func4, Try.ntmps4
    go_wp2_with fail
    refine (HLO.out _).mono ?_; rintro e w' ⟨rfl, rfl⟩
    go_wp2
    go_ret
    exact ⟨rfl, Below.refl _ _⟩

set_option maxHeartbeats 8000000 in
set_option maxRecDepth 100000 in
theorem walk_Joined1 (a : Option Addr) (n cap : Nat) (l : List Int) (a2 : Option Addr) (n2 cap2 : Nat) (l2 : List Int) (w : World) (hn : n = l.length) (hr : ByteRow w a l) (hm : n ≤ maxLen) (hn2 : n2 = l2.length) (hr2 : ByteRow w a2 l2) (hm2 : n2 ≤ maxLen) (hopv : b10V l2 0 4 = 1) :
    Calls Try.prog 4 #[.slice a n cap, .slice a2 n2 cap2] w fun e w' => e = .returned (.bool true) ∧ Below w.heap.size w w' := by
  by_cases hlong : n ≤ 1048576 ∧ n2 ≤ 1048576
  · obtain ⟨k1, k2⟩ := hlong
    have HLO := Lib.hid (fun w => b10Long_any a a2 n cap n2 cap2 w)
    rw [decide_eq_false (show ¬ 1048576 < n by omega), decide_eq_false (show ¬ 1048576 < n2 by omega)] at HLO
    have hv0 := b10V_bd l2 0 4 (by omega)
    have hv1 := b10V_bd l2 1 12 (by omega)
    have HW := Lib.hid (wave_s a n cap l w hn k1 hr)
    have HL := Lib.hid (fun T w' (hr : ByteRow w' a2 l2) (hT : T ≤ 40) => levels_s a2 n2 cap2 l2 T w' hn2 k2 hr hT)
    have HV0 := Lib.hid (fun w' (hr : ByteRow w' a2 l2) => b10At_any a2 n2 cap2 l2 0 4 w' hn2 hr (by omega) (by omega) (by omega))
    have HV1 := Lib.hid (fun w' (hr : ByteRow w' a2 l2) => b10At_any a2 n2 cap2 l2 1 12 w' hn2 hr (by omega) (by omega) (by omega))
    obtain ⟨t, e1⟩ := Int.eq_ofNat_of_zero_le hv1.1
    rw [hopv] at HV0
    rw [e1] at HV1 hv1
    have ht : t ≤ 11 := by omega
    have HR2 := Lib.hid hr2
    clear e1 hv0 hv1 hopv hn hr hn2 hr2
    go_enter Try.func4, Try.ntmps4
    go_wp2_with fail
    refine (HLO.out _).mono ?_; rintro e w' ⟨rfl, rfl⟩
    go_wp2_with fail
    refine HW.out.mono ?_; rintro e w1 ⟨s, rfl, ⟨A, hsA, hA⟩, hs40, b1⟩
    have hR3 := Lib.hid (HR2.out.keep b1 (Nat.le_refl _))
    have HA := Lib.hid hA
    have HSA := Lib.hid hsA
    obtain ⟨N, hN⟩ : ∃ N, s.size = N := ⟨_, rfl⟩
    rw [hN] at hs40
    have HB1 := Lib.hid b1
    clear hA hsA b1 HR2 HW
    go_wp2_with fail
    refine (HL.out N _ hR3.out hs40).mono ?_; rintro e w2 ⟨u, rfl, ⟨B, huB, hB⟩, hu, b2⟩
    have hR4 := Lib.hid (hR3.out.keep b2 (Nat.le_refl _))
    have HB := Lib.hid hB
    have HUB := Lib.hid huB
    have HB2 := Lib.hid (below_then HB1.out b2)
    clear hB huB b2 HB1 hR3 HL
    go_wp2_with fail
    refine (HV0.out _ hR4.out).mono ?_; rintro e w' ⟨rfl, rfl⟩
    go_wp2_with fail
    refine (HV1.out _ hR4.out).mono ?_; rintro e w' ⟨rfl, rfl⟩
    go_wp2_with fail
    refine (run_join 1 s u A B HSA.out HUB.out (by decide) HA.out HB.out (by omega) (by omega) _).mono ?_; rintro e w3 ⟨c, rfl, hc, b3⟩
    have HC := Lib.hid hc
    have HB3 := Lib.hid (below_then HB2.out b3)
    clear hc b3 HB2
    go_wp2_with fail
    refine (run_not s A HSA.out HA.out (by omega) _).mono ?_; rintro e w4 ⟨x, rfl, hx, b4⟩
    have HX := Lib.hid hx
    have HB4 := Lib.hid (below_then HB3.out b4)
    clear hx b4 HB3
    go_wp2_with fail
    refine (run_back s x A HSA.out HX.out HA.out (by omega) _).mono ?_; rintro e w5 ⟨rfl, b5⟩
    have HB5 := Lib.hid (below_then HB4.out b5)
    clear b5 HB4
    go_wp2_with fail
    refine (run_later s A t HSA.out HA.out (by omega) (by omega) _).mono ?_; rintro e w6 ⟨y, rfl, hy, b6⟩
    have HY := Lib.hid hy
    have HB6 := Lib.hid (below_then HB5.out b6)
    clear hy b6 HB5
    go_wp2_with fail
    refine (run_twice s A HSA.out HA.out (by omega) _).mono ?_; rintro e w7 ⟨rfl, b7⟩
    have HB7 := Lib.hid (below_then HB6.out b7)
    clear b7 HB6
    obtain ⟨hc, hx, hy⟩ := sizes_all 1 t s u c x y A B HSA.out HUB.out HC.out HX.out HY.out (by omega)
    have HT := Lib.hid (fun k (hk : k < N) => tick_all 1 t k s u c x y A B HSA.out HUB.out HC.out HX.out HY.out HA.out HB.out (by omega) (by omega))
    rw [hN] at hc hx hy
    have hlen : s.size + s.size ≤ maxLen := by rw [hN]; unfold maxLen; omega
    clear HSA HUB HC HX HY HA HB HV0 HV1
    go_wp2
    go_loopw [20, 21, 22, 23] (fun iv _ _ _ wr => ∃ i : Nat, iv = .int .i64 (i : Int) ∧ i ≤ N ∧ Below w.heap.size w wr) (fun iv _ _ _ _ => N - (intOf iv).toNat)
    case atStart => exact ⟨0, rfl, Nat.zero_le _, HB7.out⟩
    case round =>
      obtain ⟨i, rfl, hi, hbw⟩ := hrel
      have HBW := Lib.hid hbw
      clear hbw HB7
      by_cases hlt : i < N
      · have hlti : (i : Int) < (N : Int) := by omega
        obtain ⟨ka, kb, kc, kx, ky, va, vb, vc, vx, vy, vz⟩ := HT.out i hlt
        have VY := Lib.hid vy
        have VZ := Lib.hid vz
        have hBW2 := HBW.out.size
        obtain ⟨P, hP⟩ : ∃ P, ((s[i].toNat : Int) == 49) = P := ⟨_, rfl⟩
        obtain ⟨Q, hQ⟩ : ∃ Q, ((u[i].toNat : Int) == 49) = Q := ⟨_, rfl⟩
        obtain ⟨C, hC⟩ : ∃ C, ((c[i].toNat : Int) == 49) = C := ⟨_, rfl⟩
        have HJ := Lib.hid (show joinZ 1 P Q = C from by
          rw [← hP, ← hQ, ← hC, vc]; rcases va with va | va <;> rcases vb with vb | vb <;> (rw [va, vb]; decide))
        have hX : ((x[i].toNat : Int) == 49) = !P := by
          rw [← hP, vx]; rcases va with va | va <;> (rw [va]; decide)
        have hP2 : decide ((s[i].toNat : Int) = 49) = P := hP
        have hQ2 : decide ((u[i].toNat : Int) = 49) = Q := hQ
        have hC2 : decide ((c[i].toNat : Int) = 49) = C := hC
        have hX2 : decide ((x[i].toNat : Int) = 49) = !P := hX
        clear vy vz va vb vc vx
        go_upto_region 20 with fail
        go_cut [23] from 114 to 185 (fun v wx => v = .bool C ∧ Below w.heap.size w wx)
        case first =>
          cases P <;> cases Q <;> (go_wp2; go_meet; exact ⟨by rw [← HJ.out]; rfl, HBW.out.alloc (by omega) _⟩)
        case rest =>
          obtain ⟨rfl, hbx⟩ := hcut
          have HBX := Lib.hid hbx
          clear hbx HBW
          by_cases hit : i < t
          · have zy : (y[i].toNat : Int) = 48 := by rw [VY.out hit]; decide
            have hit2 : (i : Int) < (t : Int) := by omega
            have hit3 : ¬ (t : Int) ≤ (i : Int) := by omega
            have hit4 : decide ((t : Int) ≤ (i : Int)) = false := decide_eq_false hit3
            have hit5 : decide ((i : Int) < (t : Int)) = true := decide_eq_true hit2
            have hit6 : decide ((i : Int) ≥ (t : Int)) = false := decide_eq_false hit3
            have hit7 : decide (t ≤ i) = false := decide_eq_false (by omega)
            have hit8 : ¬ t ≤ i := by omega
            go_wp2
            go_quiet (fail)
            go_wp2
            go_roundw
            case rel => exact ⟨i + 1, by go_num, by omega, below_dsr HBX.out _⟩
            case measure => simp [intOf]; omega
          · obtain ⟨j, hj0⟩ : ∃ j, i = t + j := ⟨i - t, by omega⟩
            have hj : j < s.size := by omega
            have hji : (j : Int) < (N : Int) := by omega
            have zy : (y[i].toNat : Int) = (s[j].toNat : Int) := by rw [VZ.out j hj0]
            have hit2 : ¬ (i : Int) < (t : Int) := by omega
            have hit3 : (t : Int) ≤ (i : Int) := by omega
            have hit4 : decide ((i : Int) < (t : Int)) = false := decide_eq_false hit2
            have hit5 : decide ((t : Int) ≤ (i : Int)) = true := decide_eq_true hit3
            have wj : IntKind.i64.wrap ((i : Int) - (t : Int)) = (j : Int) := by rw [show (i : Int) - (t : Int) = (j : Int) by omega]; exact IntWalk.i64_in _ (by omega)
            have wj2 : IntKind.i64.wrap (j : Int) = (j : Int) := IntWalk.i64_in _ (by omega)
            clear hj0
            go_wp2
            go_quiet (fail)
            go_wp2
            go_roundw
            case rel => exact ⟨i + 1, by go_num, by omega, below_dsr HBX.out _⟩
            case measure => simp [intOf]; omega
      · have hlti : ¬ (i : Int) < (N : Int) := by omega
        go_wp2
        go_ret
        exact ⟨rfl, HBW.out⟩
  · have HLO := Lib.hid (fun w => b10Long_any a a2 n cap n2 cap2 w)
    have hb : (decide (1048576 < n) || decide (1048576 < n2)) = true := by simp; omega
    rw [hb] at HLO
    clear hr hr2 hn hn2 hb hlong
    go_enter Try.func4, Try.ntmps4
    go_wp2_with fail
    refine (HLO.out _).mono ?_; rintro e w' ⟨rfl, rfl⟩
    go_wp2
    go_ret
    exact ⟨rfl, Below.refl _ _⟩

set_option maxHeartbeats 8000000 in
set_option maxRecDepth 100000 in
theorem walk_Joined2 (a : Option Addr) (n cap : Nat) (l : List Int) (a2 : Option Addr) (n2 cap2 : Nat) (l2 : List Int) (w : World) (hn : n = l.length) (hr : ByteRow w a l) (hm : n ≤ maxLen) (hn2 : n2 = l2.length) (hr2 : ByteRow w a2 l2) (hm2 : n2 ≤ maxLen) (hopv : b10V l2 0 4 = 2) :
    Calls Try.prog 4 #[.slice a n cap, .slice a2 n2 cap2] w fun e w' => e = .returned (.bool true) ∧ Below w.heap.size w w' := by
  by_cases hlong : n ≤ 1048576 ∧ n2 ≤ 1048576
  · obtain ⟨k1, k2⟩ := hlong
    have HLO := Lib.hid (fun w => b10Long_any a a2 n cap n2 cap2 w)
    rw [decide_eq_false (show ¬ 1048576 < n by omega), decide_eq_false (show ¬ 1048576 < n2 by omega)] at HLO
    have hv0 := b10V_bd l2 0 4 (by omega)
    have hv1 := b10V_bd l2 1 12 (by omega)
    have HW := Lib.hid (wave_s a n cap l w hn k1 hr)
    have HL := Lib.hid (fun T w' (hr : ByteRow w' a2 l2) (hT : T ≤ 40) => levels_s a2 n2 cap2 l2 T w' hn2 k2 hr hT)
    have HV0 := Lib.hid (fun w' (hr : ByteRow w' a2 l2) => b10At_any a2 n2 cap2 l2 0 4 w' hn2 hr (by omega) (by omega) (by omega))
    have HV1 := Lib.hid (fun w' (hr : ByteRow w' a2 l2) => b10At_any a2 n2 cap2 l2 1 12 w' hn2 hr (by omega) (by omega) (by omega))
    obtain ⟨t, e1⟩ := Int.eq_ofNat_of_zero_le hv1.1
    rw [hopv] at HV0
    rw [e1] at HV1 hv1
    have ht : t ≤ 11 := by omega
    have HR2 := Lib.hid hr2
    clear e1 hv0 hv1 hopv hn hr hn2 hr2
    go_enter Try.func4, Try.ntmps4
    go_wp2_with fail
    refine (HLO.out _).mono ?_; rintro e w' ⟨rfl, rfl⟩
    go_wp2_with fail
    refine HW.out.mono ?_; rintro e w1 ⟨s, rfl, ⟨A, hsA, hA⟩, hs40, b1⟩
    have hR3 := Lib.hid (HR2.out.keep b1 (Nat.le_refl _))
    have HA := Lib.hid hA
    have HSA := Lib.hid hsA
    obtain ⟨N, hN⟩ : ∃ N, s.size = N := ⟨_, rfl⟩
    rw [hN] at hs40
    have HB1 := Lib.hid b1
    clear hA hsA b1 HR2 HW
    go_wp2_with fail
    refine (HL.out N _ hR3.out hs40).mono ?_; rintro e w2 ⟨u, rfl, ⟨B, huB, hB⟩, hu, b2⟩
    have hR4 := Lib.hid (hR3.out.keep b2 (Nat.le_refl _))
    have HB := Lib.hid hB
    have HUB := Lib.hid huB
    have HB2 := Lib.hid (below_then HB1.out b2)
    clear hB huB b2 HB1 hR3 HL
    go_wp2_with fail
    refine (HV0.out _ hR4.out).mono ?_; rintro e w' ⟨rfl, rfl⟩
    go_wp2_with fail
    refine (HV1.out _ hR4.out).mono ?_; rintro e w' ⟨rfl, rfl⟩
    go_wp2_with fail
    refine (run_join 2 s u A B HSA.out HUB.out (by decide) HA.out HB.out (by omega) (by omega) _).mono ?_; rintro e w3 ⟨c, rfl, hc, b3⟩
    have HC := Lib.hid hc
    have HB3 := Lib.hid (below_then HB2.out b3)
    clear hc b3 HB2
    go_wp2_with fail
    refine (run_not s A HSA.out HA.out (by omega) _).mono ?_; rintro e w4 ⟨x, rfl, hx, b4⟩
    have HX := Lib.hid hx
    have HB4 := Lib.hid (below_then HB3.out b4)
    clear hx b4 HB3
    go_wp2_with fail
    refine (run_back s x A HSA.out HX.out HA.out (by omega) _).mono ?_; rintro e w5 ⟨rfl, b5⟩
    have HB5 := Lib.hid (below_then HB4.out b5)
    clear b5 HB4
    go_wp2_with fail
    refine (run_later s A t HSA.out HA.out (by omega) (by omega) _).mono ?_; rintro e w6 ⟨y, rfl, hy, b6⟩
    have HY := Lib.hid hy
    have HB6 := Lib.hid (below_then HB5.out b6)
    clear hy b6 HB5
    go_wp2_with fail
    refine (run_twice s A HSA.out HA.out (by omega) _).mono ?_; rintro e w7 ⟨rfl, b7⟩
    have HB7 := Lib.hid (below_then HB6.out b7)
    clear b7 HB6
    obtain ⟨hc, hx, hy⟩ := sizes_all 2 t s u c x y A B HSA.out HUB.out HC.out HX.out HY.out (by omega)
    have HT := Lib.hid (fun k (hk : k < N) => tick_all 2 t k s u c x y A B HSA.out HUB.out HC.out HX.out HY.out HA.out HB.out (by omega) (by omega))
    rw [hN] at hc hx hy
    have hlen : s.size + s.size ≤ maxLen := by rw [hN]; unfold maxLen; omega
    clear HSA HUB HC HX HY HA HB HV0 HV1
    go_wp2
    go_loopw [20, 21, 22, 23] (fun iv _ _ _ wr => ∃ i : Nat, iv = .int .i64 (i : Int) ∧ i ≤ N ∧ Below w.heap.size w wr) (fun iv _ _ _ _ => N - (intOf iv).toNat)
    case atStart => exact ⟨0, rfl, Nat.zero_le _, HB7.out⟩
    case round =>
      obtain ⟨i, rfl, hi, hbw⟩ := hrel
      have HBW := Lib.hid hbw
      clear hbw HB7
      by_cases hlt : i < N
      · have hlti : (i : Int) < (N : Int) := by omega
        obtain ⟨ka, kb, kc, kx, ky, va, vb, vc, vx, vy, vz⟩ := HT.out i hlt
        have VY := Lib.hid vy
        have VZ := Lib.hid vz
        have hBW2 := HBW.out.size
        obtain ⟨P, hP⟩ : ∃ P, ((s[i].toNat : Int) == 49) = P := ⟨_, rfl⟩
        obtain ⟨Q, hQ⟩ : ∃ Q, ((u[i].toNat : Int) == 49) = Q := ⟨_, rfl⟩
        obtain ⟨C, hC⟩ : ∃ C, ((c[i].toNat : Int) == 49) = C := ⟨_, rfl⟩
        have HJ := Lib.hid (show joinZ 2 P Q = C from by
          rw [← hP, ← hQ, ← hC, vc]; rcases va with va | va <;> rcases vb with vb | vb <;> (rw [va, vb]; decide))
        have hX : ((x[i].toNat : Int) == 49) = !P := by
          rw [← hP, vx]; rcases va with va | va <;> (rw [va]; decide)
        have hP2 : decide ((s[i].toNat : Int) = 49) = P := hP
        have hQ2 : decide ((u[i].toNat : Int) = 49) = Q := hQ
        have hC2 : decide ((c[i].toNat : Int) = 49) = C := hC
        have hX2 : decide ((x[i].toNat : Int) = 49) = !P := hX
        clear vy vz va vb vc vx
        go_upto_region 20 with fail
        go_cut [23] from 114 to 185 (fun v wx => v = .bool C ∧ Below w.heap.size w wx)
        case first =>
          cases P <;> cases Q <;> (go_wp2; go_meet; exact ⟨by rw [← HJ.out]; rfl, HBW.out.alloc (by omega) _⟩)
        case rest =>
          obtain ⟨rfl, hbx⟩ := hcut
          have HBX := Lib.hid hbx
          clear hbx HBW
          by_cases hit : i < t
          · have zy : (y[i].toNat : Int) = 48 := by rw [VY.out hit]; decide
            have hit2 : (i : Int) < (t : Int) := by omega
            have hit3 : ¬ (t : Int) ≤ (i : Int) := by omega
            have hit4 : decide ((t : Int) ≤ (i : Int)) = false := decide_eq_false hit3
            have hit5 : decide ((i : Int) < (t : Int)) = true := decide_eq_true hit2
            have hit6 : decide ((i : Int) ≥ (t : Int)) = false := decide_eq_false hit3
            have hit7 : decide (t ≤ i) = false := decide_eq_false (by omega)
            have hit8 : ¬ t ≤ i := by omega
            go_wp2
            go_quiet (fail)
            go_wp2
            go_roundw
            case rel => exact ⟨i + 1, by go_num, by omega, below_dsr HBX.out _⟩
            case measure => simp [intOf]; omega
          · obtain ⟨j, hj0⟩ : ∃ j, i = t + j := ⟨i - t, by omega⟩
            have hj : j < s.size := by omega
            have hji : (j : Int) < (N : Int) := by omega
            have zy : (y[i].toNat : Int) = (s[j].toNat : Int) := by rw [VZ.out j hj0]
            have hit2 : ¬ (i : Int) < (t : Int) := by omega
            have hit3 : (t : Int) ≤ (i : Int) := by omega
            have hit4 : decide ((i : Int) < (t : Int)) = false := decide_eq_false hit2
            have hit5 : decide ((t : Int) ≤ (i : Int)) = true := decide_eq_true hit3
            have wj : IntKind.i64.wrap ((i : Int) - (t : Int)) = (j : Int) := by rw [show (i : Int) - (t : Int) = (j : Int) by omega]; exact IntWalk.i64_in _ (by omega)
            have wj2 : IntKind.i64.wrap (j : Int) = (j : Int) := IntWalk.i64_in _ (by omega)
            clear hj0
            go_wp2
            go_quiet (fail)
            go_wp2
            go_roundw
            case rel => exact ⟨i + 1, by go_num, by omega, below_dsr HBX.out _⟩
            case measure => simp [intOf]; omega
      · have hlti : ¬ (i : Int) < (N : Int) := by omega
        go_wp2
        go_ret
        exact ⟨rfl, HBW.out⟩
  · have HLO := Lib.hid (fun w => b10Long_any a a2 n cap n2 cap2 w)
    have hb : (decide (1048576 < n) || decide (1048576 < n2)) = true := by simp; omega
    rw [hb] at HLO
    clear hr hr2 hn hn2 hb hlong
    go_enter Try.func4, Try.ntmps4
    go_wp2_with fail
    refine (HLO.out _).mono ?_; rintro e w' ⟨rfl, rfl⟩
    go_wp2
    go_ret
    exact ⟨rfl, Below.refl _ _⟩

set_option maxHeartbeats 8000000 in
set_option maxRecDepth 100000 in
theorem walk_Joined3 (a : Option Addr) (n cap : Nat) (l : List Int) (a2 : Option Addr) (n2 cap2 : Nat) (l2 : List Int) (w : World) (hn : n = l.length) (hr : ByteRow w a l) (hm : n ≤ maxLen) (hn2 : n2 = l2.length) (hr2 : ByteRow w a2 l2) (hm2 : n2 ≤ maxLen) (hopv : b10V l2 0 4 = 3) :
    Calls Try.prog 4 #[.slice a n cap, .slice a2 n2 cap2] w fun e w' => e = .returned (.bool true) ∧ Below w.heap.size w w' := by
  by_cases hlong : n ≤ 1048576 ∧ n2 ≤ 1048576
  · obtain ⟨k1, k2⟩ := hlong
    have HLO := Lib.hid (fun w => b10Long_any a a2 n cap n2 cap2 w)
    rw [decide_eq_false (show ¬ 1048576 < n by omega), decide_eq_false (show ¬ 1048576 < n2 by omega)] at HLO
    have hv0 := b10V_bd l2 0 4 (by omega)
    have hv1 := b10V_bd l2 1 12 (by omega)
    have HW := Lib.hid (wave_s a n cap l w hn k1 hr)
    have HL := Lib.hid (fun T w' (hr : ByteRow w' a2 l2) (hT : T ≤ 40) => levels_s a2 n2 cap2 l2 T w' hn2 k2 hr hT)
    have HV0 := Lib.hid (fun w' (hr : ByteRow w' a2 l2) => b10At_any a2 n2 cap2 l2 0 4 w' hn2 hr (by omega) (by omega) (by omega))
    have HV1 := Lib.hid (fun w' (hr : ByteRow w' a2 l2) => b10At_any a2 n2 cap2 l2 1 12 w' hn2 hr (by omega) (by omega) (by omega))
    obtain ⟨t, e1⟩ := Int.eq_ofNat_of_zero_le hv1.1
    rw [hopv] at HV0
    rw [e1] at HV1 hv1
    have ht : t ≤ 11 := by omega
    have HR2 := Lib.hid hr2
    clear e1 hv0 hv1 hopv hn hr hn2 hr2
    go_enter Try.func4, Try.ntmps4
    go_wp2_with fail
    refine (HLO.out _).mono ?_; rintro e w' ⟨rfl, rfl⟩
    go_wp2_with fail
    refine HW.out.mono ?_; rintro e w1 ⟨s, rfl, ⟨A, hsA, hA⟩, hs40, b1⟩
    have hR3 := Lib.hid (HR2.out.keep b1 (Nat.le_refl _))
    have HA := Lib.hid hA
    have HSA := Lib.hid hsA
    obtain ⟨N, hN⟩ : ∃ N, s.size = N := ⟨_, rfl⟩
    rw [hN] at hs40
    have HB1 := Lib.hid b1
    clear hA hsA b1 HR2 HW
    go_wp2_with fail
    refine (HL.out N _ hR3.out hs40).mono ?_; rintro e w2 ⟨u, rfl, ⟨B, huB, hB⟩, hu, b2⟩
    have hR4 := Lib.hid (hR3.out.keep b2 (Nat.le_refl _))
    have HB := Lib.hid hB
    have HUB := Lib.hid huB
    have HB2 := Lib.hid (below_then HB1.out b2)
    clear hB huB b2 HB1 hR3 HL
    go_wp2_with fail
    refine (HV0.out _ hR4.out).mono ?_; rintro e w' ⟨rfl, rfl⟩
    go_wp2_with fail
    refine (HV1.out _ hR4.out).mono ?_; rintro e w' ⟨rfl, rfl⟩
    go_wp2_with fail
    refine (run_join 3 s u A B HSA.out HUB.out (by decide) HA.out HB.out (by omega) (by omega) _).mono ?_; rintro e w3 ⟨c, rfl, hc, b3⟩
    have HC := Lib.hid hc
    have HB3 := Lib.hid (below_then HB2.out b3)
    clear hc b3 HB2
    go_wp2_with fail
    refine (run_not s A HSA.out HA.out (by omega) _).mono ?_; rintro e w4 ⟨x, rfl, hx, b4⟩
    have HX := Lib.hid hx
    have HB4 := Lib.hid (below_then HB3.out b4)
    clear hx b4 HB3
    go_wp2_with fail
    refine (run_back s x A HSA.out HX.out HA.out (by omega) _).mono ?_; rintro e w5 ⟨rfl, b5⟩
    have HB5 := Lib.hid (below_then HB4.out b5)
    clear b5 HB4
    go_wp2_with fail
    refine (run_later s A t HSA.out HA.out (by omega) (by omega) _).mono ?_; rintro e w6 ⟨y, rfl, hy, b6⟩
    have HY := Lib.hid hy
    have HB6 := Lib.hid (below_then HB5.out b6)
    clear hy b6 HB5
    go_wp2_with fail
    refine (run_twice s A HSA.out HA.out (by omega) _).mono ?_; rintro e w7 ⟨rfl, b7⟩
    have HB7 := Lib.hid (below_then HB6.out b7)
    clear b7 HB6
    obtain ⟨hc, hx, hy⟩ := sizes_all 3 t s u c x y A B HSA.out HUB.out HC.out HX.out HY.out (by omega)
    have HT := Lib.hid (fun k (hk : k < N) => tick_all 3 t k s u c x y A B HSA.out HUB.out HC.out HX.out HY.out HA.out HB.out (by omega) (by omega))
    rw [hN] at hc hx hy
    have hlen : s.size + s.size ≤ maxLen := by rw [hN]; unfold maxLen; omega
    clear HSA HUB HC HX HY HA HB HV0 HV1
    go_wp2
    go_loopw [20, 21, 22, 23] (fun iv _ _ _ wr => ∃ i : Nat, iv = .int .i64 (i : Int) ∧ i ≤ N ∧ Below w.heap.size w wr) (fun iv _ _ _ _ => N - (intOf iv).toNat)
    case atStart => exact ⟨0, rfl, Nat.zero_le _, HB7.out⟩
    case round =>
      obtain ⟨i, rfl, hi, hbw⟩ := hrel
      have HBW := Lib.hid hbw
      clear hbw HB7
      by_cases hlt : i < N
      · have hlti : (i : Int) < (N : Int) := by omega
        obtain ⟨ka, kb, kc, kx, ky, va, vb, vc, vx, vy, vz⟩ := HT.out i hlt
        have VY := Lib.hid vy
        have VZ := Lib.hid vz
        have hBW2 := HBW.out.size
        obtain ⟨P, hP⟩ : ∃ P, ((s[i].toNat : Int) == 49) = P := ⟨_, rfl⟩
        obtain ⟨Q, hQ⟩ : ∃ Q, ((u[i].toNat : Int) == 49) = Q := ⟨_, rfl⟩
        obtain ⟨C, hC⟩ : ∃ C, ((c[i].toNat : Int) == 49) = C := ⟨_, rfl⟩
        have HJ := Lib.hid (show joinZ 3 P Q = C from by
          rw [← hP, ← hQ, ← hC, vc]; rcases va with va | va <;> rcases vb with vb | vb <;> (rw [va, vb]; decide))
        have hX : ((x[i].toNat : Int) == 49) = !P := by
          rw [← hP, vx]; rcases va with va | va <;> (rw [va]; decide)
        have hP2 : decide ((s[i].toNat : Int) = 49) = P := hP
        have hQ2 : decide ((u[i].toNat : Int) = 49) = Q := hQ
        have hC2 : decide ((c[i].toNat : Int) = 49) = C := hC
        have hX2 : decide ((x[i].toNat : Int) = 49) = !P := hX
        clear vy vz va vb vc vx
        go_upto_region 20 with fail
        go_cut [23] from 114 to 185 (fun v wx => v = .bool C ∧ Below w.heap.size w wx)
        case first =>
          cases P <;> cases Q <;> (go_wp2; go_meet; exact ⟨by rw [← HJ.out]; rfl, HBW.out.alloc (by omega) _⟩)
        case rest =>
          obtain ⟨rfl, hbx⟩ := hcut
          have HBX := Lib.hid hbx
          clear hbx HBW
          by_cases hit : i < t
          · have zy : (y[i].toNat : Int) = 48 := by rw [VY.out hit]; decide
            have hit2 : (i : Int) < (t : Int) := by omega
            have hit3 : ¬ (t : Int) ≤ (i : Int) := by omega
            have hit4 : decide ((t : Int) ≤ (i : Int)) = false := decide_eq_false hit3
            have hit5 : decide ((i : Int) < (t : Int)) = true := decide_eq_true hit2
            have hit6 : decide ((i : Int) ≥ (t : Int)) = false := decide_eq_false hit3
            have hit7 : decide (t ≤ i) = false := decide_eq_false (by omega)
            have hit8 : ¬ t ≤ i := by omega
            go_wp2
            go_quiet (fail)
            go_wp2
            go_roundw
            case rel => exact ⟨i + 1, by go_num, by omega, below_dsr HBX.out _⟩
            case measure => simp [intOf]; omega
          · obtain ⟨j, hj0⟩ : ∃ j, i = t + j := ⟨i - t, by omega⟩
            have hj : j < s.size := by omega
            have hji : (j : Int) < (N : Int) := by omega
            have zy : (y[i].toNat : Int) = (s[j].toNat : Int) := by rw [VZ.out j hj0]
            have hit2 : ¬ (i : Int) < (t : Int) := by omega
            have hit3 : (t : Int) ≤ (i : Int) := by omega
            have hit4 : decide ((i : Int) < (t : Int)) = false := decide_eq_false hit2
            have hit5 : decide ((t : Int) ≤ (i : Int)) = true := decide_eq_true hit3
            have wj : IntKind.i64.wrap ((i : Int) - (t : Int)) = (j : Int) := by rw [show (i : Int) - (t : Int) = (j : Int) by omega]; exact IntWalk.i64_in _ (by omega)
            have wj2 : IntKind.i64.wrap (j : Int) = (j : Int) := IntWalk.i64_in _ (by omega)
            clear hj0
            go_wp2
            go_quiet (fail)
            go_wp2
            go_roundw
            case rel => exact ⟨i + 1, by go_num, by omega, below_dsr HBX.out _⟩
            case measure => simp [intOf]; omega
      · have hlti : ¬ (i : Int) < (N : Int) := by omega
        go_wp2
        go_ret
        exact ⟨rfl, HBW.out⟩
  · have HLO := Lib.hid (fun w => b10Long_any a a2 n cap n2 cap2 w)
    have hb : (decide (1048576 < n) || decide (1048576 < n2)) = true := by simp; omega
    rw [hb] at HLO
    clear hr hr2 hn hn2 hb hlong
    go_enter Try.func4, Try.ntmps4
    go_wp2_with fail
    refine (HLO.out _).mono ?_; rintro e w' ⟨rfl, rfl⟩
    go_wp2
    go_ret
    exact ⟨rfl, Below.refl _ _⟩

theorem walk_FnJoined (a : Option Addr) (n cap : Nat) (l : List Int) (a2 : Option Addr) (n2 cap2 : Nat) (l2 : List Int) (w : World) (hn : n = l.length) (hr : ByteRow w a l) (hm : n ≤ maxLen) (hn2 : n2 = l2.length) (hr2 : ByteRow w a2 l2) (hm2 : n2 ≤ maxLen) :
    Calls Try.prog 4 #[.slice a n cap, .slice a2 n2 cap2] w fun e w' => e = .returned (.bool true) ∧ Below w.heap.size w w' := by
  have h := b10V_bd l2 0 4 (by omega)
  rcases (show b10V l2 0 4 = 0 ∨ b10V l2 0 4 = 1 ∨ b10V l2 0 4 = 2 ∨ b10V l2 0 4 = 3 by omega) with h | h | h | h
  · exact walk_Joined0 a n cap l a2 n2 cap2 l2 w hn hr hm hn2 hr2 hm2 h
  · exact walk_Joined1 a n cap l a2 n2 cap2 l2 w hn hr hm hn2 hr2 hm2 h
  · exact walk_Joined2 a n cap l a2 n2 cap2 l2 w hn hr hm hn2 hr2 hm2 h
  · exact walk_Joined3 a n cap l a2 n2 cap2 l2 w hn hr hm hn2 hr2 hm2 h
end Go.Proofs.Ytmhbgpappjfolaa
