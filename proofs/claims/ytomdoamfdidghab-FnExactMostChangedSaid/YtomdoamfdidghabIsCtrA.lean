/- Contracts: is a counter valid, on both sides. -/
import Derived.Test.YtomdoamfdidghabState
import Derived.Test.YtomdoamfdidghabPair
import Derived.BigQuiet
import Derived.Deep.QuietTactic
namespace Go.Proofs.Ytomdoamfdidghab
open Go.RowKit

theorem quiet_eqc {P : Program} {f : FuncId} {args : Array Value} {w : World} {n : Nat} {v : Value}
    (h : Calls P f args (w.drewN n) fun e w' => e = .returned v ∧ w.drewN n = w') : Calls P f args (w.drewN n) fun e w'' => e = .returned v ∧ ∃ m, w'' = w.drewN m :=
  h.mono fun _ _ ⟨he, hm⟩ => ⟨he, n, hm.symm⟩

/-- is a number a state -/
def stB (b x : Int) : Bool := decide (0 ≤ x ∧ x < st b)
def ctrB (b : Int) (l : List Int) : Bool := decide (1 ≤ b ∧ b ≤ 8) && decide ((l.length : Int) = st b) && l.all (stB b)
theorem ctrB_bits (b : Int) (l : List Int) (h : b < 1 ∨ 8 < b) : ctrB b l = false := by
  unfold ctrB; rw [decide_eq_false (by omega)]; rfl
theorem ctrB_len (b : Int) (l : List Int) (h : (l.length : Int) ≠ st b) : ctrB b l = false := by
  unfold ctrB; rw [decide_eq_false h]; simp
theorem ctrB_all (b : Int) (l : List Int) (h1 : 1 ≤ b) (h2 : b ≤ 8) (h : (l.length : Int) = st b) : ctrB b l = l.all (stB b) := by
  unfold ctrB; rw [decide_eq_true ⟨h1, h2⟩, decide_eq_true h]; rfl
theorem all_stepB (p : Int → Bool) (l : List Int) (k : Nat) (hk : k < l.length) (h0 : (l.take k).all p = true) (h : p l[k] = true) : (l.take (k + 1)).all p = true := by
  rw [List.take_succ_eq_append_getElem hk]; simp only [List.all_append, h0, Bool.true_and]; simp [h]
theorem all_badB (p : Int → Bool) (l : List Int) (k : Nat) (hk : k < l.length) (h : p l[k] = false) : l.all p = false := by
  rw [List.all_eq_false]; exact ⟨l[k], List.getElem_mem hk, by simp [h]⟩
theorem all_endB (p : Int → Bool) (l : List Int) (k : Nat) (hk : l.length ≤ k) (h0 : (l.take k).all p = true) : l.all p = true := by
  rw [List.take_of_length_le hk] at h0; exact h0

/-- a slice of the call's own, read -/
def RowOf (w : World) (a : Option Addr) (l : List Int) : Prop := ∀ k (hk : k < l.length), ∃ g, a = some ⟨g, 0, none⟩ ∧ w.cell? ⟨g, k, none⟩ = some (.int .i64 l[k])
theorem Ints.rowOf {w : World} {B n cap : Nat} {a : Option Addr} {l : List Int} (h : Ints w B (.slice a n cap) l) : RowOf w a l ∧ n = l.length := by
  obtain ⟨a', cap', hv, _, hk⟩ := h.form
  simp only [Value.slice.injEq] at hv
  obtain ⟨rfl, rfl, rfl⟩ := hv
  refine ⟨fun k hlt => ?_, rfl⟩
  obtain ⟨g, h1, _, _, h2, _⟩ := hk k hlt
  exact ⟨g, h1, h2⟩

set_option maxHeartbeats 1000000 in
set_option maxRecDepth 100000 in
theorem l02Is_any (p : Nat) (b : Int) (a : Option Addr) (n cap : Nat) (l : List Int) (w : World) (hn : n = l.length) (hl : n ≤ 1048576) (hp : At2 w p (.int .i64 b) (.slice a n cap)) (hr : RowOf w a l) :
    Calls Try.prog 30 #[.pointer (some ⟨p, 0, none⟩)] w fun e w' => e = .returned (.bool (ctrB b l)) ∧ ∃ q, w' = w.drewN q := by
  obtain ⟨c0, c1, _, _⟩ := hp
  have HN := Lib.hid hn
  have HR := Lib.hid hr
  clear hr
  by_cases hb : b < 1 ∨ 8 < b
  · rw [ctrB_bits b l hb]
    clear hn
    go_enter Try.func30, Try.ntmps30
    go_wp2
    go_quiet ((go_at_call 39; exact quiet_eqc (l02Bits_f _ _ hb)))
    go_wp2
    go_ret
    exact ⟨rfl, _, rfl⟩
  · have h1 : 1 ≤ b := by omega
    have h2 : b ≤ 8 := by omega
    have hsb := st_bd b h1 h2
    by_cases hlen : (n : Int) = st b
    · rw [ctrB_all b l h1 h2 (by rw [← hn]; exact hlen)]
      have hne : ((n : Int) != st b) = false := by simp [hlen]
      have HLEN := Lib.hid hlen
      clear hn hlen hb
      go_enter Try.func30, Try.ntmps30
      go_wp2
      go_quiet (first | (go_at_call 39; exact quiet_eqc (l02Bits_t _ _ h1 h2)) | (go_at_call 40; exact quiet_eqc (l02Size_any _ _ h1 h2)))
      go_wp2
      go_loopw [3] (fun i wr => ∃ k : Nat, k ≤ n ∧ i = .int .i64 (k : Int) ∧ (l.take k).all (stB b) = true ∧ ∃ q, wr = w.drewN q) (fun i _ => n - (intOf i).toNat)
      case atStart => exact ⟨0, Nat.zero_le _, rfl, by simp, _, rfl⟩
      case round =>
        obtain ⟨k, hk, rfl, h0, hq⟩ := hrel
        have HQ := Lib.hid hq
        have hcw : ∀ g o, wr.cell? ⟨g, o, none⟩ = w.cell? ⟨g, o, none⟩ := fun g o => by obtain ⟨q, hq⟩ := hq; rw [hq]; rfl
        have d0 := (hcw p 0).trans c0
        have d1 := (hcw p 1).trans c1
        have HCW := Lib.hid hcw
        clear hcw hq
        have H0 := Lib.hid h0
        clear h0
        by_cases hlt : k < n
        · have hkl : k < l.length := by have := HN.out; omega
          obtain ⟨g, rfl, hc⟩ := HR.out k hkl
          obtain ⟨y, hy⟩ : ∃ y, l[k] = y := ⟨_, rfl⟩
          rw [hy] at hc
          have hc := (HCW.out g k).trans hc
          by_cases hs : StateOk b y
          · have HE := Lib.hid (all_stepB (stB b) l k hkl H0.out (by rw [hy]; unfold stB; exact decide_eq_true ⟨hs.2.2.1, hs.2.2.2⟩))
            have HS := Lib.hid hs
            clear hy hs hkl
            go_wp2
            go_quiet ((go_at_call 31; exact quiet_eqc (l02State_t _ _ _ HS.out)))
            go_wp2
            go_roundw
            case rel => exact ⟨k + 1, by omega, by go_num, HE.out, by obtain ⟨q, hq⟩ := HQ.out; exact ⟨_, by rw [hq, World.drewN_drewN]⟩⟩
            case measure => simp [intOf]; omega
          · have HE := Lib.hid (all_badB (stB b) l k hkl (by rw [hy]; unfold stB; exact decide_eq_false fun h => hs ⟨h1, h2, h.1, h.2⟩))
            have HS := Lib.hid hs
            clear hy hs hkl
            go_wp2
            go_quiet ((go_at_call 31; exact quiet_eqc (l02State_f _ _ _ HS.out)))
            go_wp2
            go_ret
            exact ⟨ret_bool HE.out.symm, by obtain ⟨q, hq⟩ := HQ.out; exact ⟨_, by rw [hq, World.drewN_drewN]⟩⟩
        · have HE := Lib.hid (all_endB (stB b) l k (by have := HN.out; omega) H0.out)
          go_wp2
          go_ret
          exact ⟨ret_bool HE.out.symm, HQ.out⟩
    · rw [ctrB_len b l (by rw [← hn]; exact hlen)]
      have hne : ((n : Int) != st b) = true := by simp [hlen]
      clear hn hlen hb
      go_enter Try.func30, Try.ntmps30
      go_wp2
      go_quiet (first | (go_at_call 39; exact quiet_eqc (l02Bits_t _ _ h1 h2)) | (go_at_call 40; exact quiet_eqc (l02Size_any _ _ h1 h2)))
      go_wp2
      go_ret
      exact ⟨rfl, _, rfl⟩

end Go.Proofs.Ytomdoamfdidghab
