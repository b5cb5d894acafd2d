/- RegistersOf on both sides. -/
import Derived.Test.YtlpdiodkolcfcaaFlowV
namespace Go.Proofs.Ytlpdiodkolcfcaa
open Go.RowKit
set_option linter.unusedVariables false
set_option linter.unusedSimpArgs false

def rgS (F : List Int) : Nat → Int
  | 0 => 0
  | k + 1 => rgS F k + F.getD (k * 3 + 2) 0
theorem rgS_bnd {F : List Int} {n : Nat} (h : ∀ k, k < n → 0 ≤ F.getD (k * 3 + 2) 0 ∧ F.getD (k * 3 + 2) 0 ≤ 20) : ∀ k, k ≤ n → 0 ≤ rgS F k ∧ rgS F k ≤ 20 * (k : Int)
  | 0, _ => by simp [rgS]
  | k + 1, hk => by
    have := rgS_bnd h k (by omega)
    have := h k (by omega)
    simp only [rgS]
    omega
def RgR (ds : List Int) (wn : Nat) (F : List Int) (w : World) (r : Ending) (w' : World) : Prop := Below w.heap.size w w' ∧ ∃ (x : Int) (ok : Bool), r = .returned (.tuple #[.int .i64 x, .bool ok]) ∧ (ok = true ↔ FlowOk ds wn F) ∧ x = (if ok then rgS F wn else 0)
theorem RgR.one {ds : List Int} {wn : Nat} {F : List Int} {x x' : Int} {ok ok' : Bool} (h1 : ok = true ↔ FlowOk ds wn F) (h2 : x = (if ok then rgS F wn else 0)) (g1 : ok' = true ↔ FlowOk ds wn F) (g2 : x' = (if ok' then rgS F wn else 0)) : ok' = ok ∧ x' = x := by
  have e : ok' = ok := by
    have h := g1.trans h1.symm
    cases ok <;> cases ok' <;> simp_all
  subst e
  exact ⟨rfl, g2.trans h2.symm⟩
set_option maxHeartbeats 4000000 in
set_option maxRecDepth 100000 in
theorem specRegs (B : Nat) (da : Option Addr) (dn dc : Nat) (ds : List Int) (wa : Option Addr) (wn wc : Nat) (F : List Int) (w : World) (hf : Fl w B da dn dc ds wa wn wc F) (hdl : dn ≤ 1048576) (hwl : wn ≤ 1048576) :
    Calls Try.prog 22 #[.agg #[.slice da dn dc, .slice wa wn wc]] w fun r w' => RgR ds wn F w r w' := by
  obtain ⟨w0, hw0⟩ : ∃ w0, w.alloc (.cells #[.slice da dn dc, .slice wa wn wc] 36) = w0 := ⟨_, rfl⟩
  have hb0 : Below w.heap.size w w0 := by rw [← hw0]; exact (Below.refl _ _).alloc (Nat.le_refl _) _
  have hlt0 : w.heap.size < w0.heap.size := by rw [← hw0]; simp
  have HP : Hid (At2 w0 w.heap.size (.slice da dn dc) (.slice wa wn wc)) := by rw [← hw0]; exact At2.new w _ _ _
  have HF := Lib.hid (hf.keep hb0 (Nat.le_refl _))
  have HB0 := Lib.hid hb0
  have HI := Lib.hid (l08Is_any w.heap.size B da dn dc ds wa wn wc F w0 HP.out HF.out hdl hwl)
  clear hf hb0
  go_enter Try.func22, Try.ntmps22
  go_wp2_with fail
  refine HI.out.mono ?_; rintro r w1 ⟨b1, ok, rfl, hok⟩
  have HB1 := Lib.hid (HB0.out.trans (b1.mono HB0.out.size))
  have HB01 := Lib.hid b1
  have HOK := Lib.hid hok
  clear b1 hok hw0
  cases ok with
  | false =>
    go_wp2
    go_ret2
    exact ⟨HB1.out, 0, false, rfl, HOK.out, rfl⟩
  | true =>
    obtain ⟨-, -, q3, -, q5⟩ := form_ok (HOK.out.1 rfl).1
    have HBN := Lib.hid (rgS_bnd (F := F) (n := wn) (fun k hk => (q5 k hk).2.2))
    have HQ5 := Lib.hid q5
    obtain ⟨c0, c1, -, -⟩ := HP.out.below HB01.out hlt0
    clear q5
    go_wp2
    go_loop [4, 5] (fun s i => ∃ k : Nat, k ≤ wn ∧ i = .int .i64 (k : Int) ∧ s = .int .i64 (rgS F k)) (fun _ i => wn - (intOf i).toNat)
    case atStart => exact ⟨0, Nat.zero_le _, rfl, rfl⟩
    case round =>
      obtain ⟨k, hk, rfl, rfl⟩ := hrel
      by_cases hlt : k < wn
      · have hltz : (k : Int) < (wn : Int) := by omega
        obtain ⟨g, x, y, z, rfl, -, -, ⟨-, -, e2⟩, x0, x1, x2⟩ := (HF.out.r.keep HB01.out (Nat.le_refl _)).at k hlt
        have hb := HBN.out k hk
        have hz := (HQ5.out k hlt).2.2
        rw [e2] at hz
        have HS : Hid (rgS F (k + 1) = rgS F k + z) := by show _ = _; rw [← e2]; rfl
        obtain ⟨s, hs⟩ : ∃ s, rgS F k = s := ⟨_, rfl⟩
        rw [hs] at hb HS ⊢
        have hwr : IntKind.i64.wrap (s + z) = s + z := IntWalk.i64_in _ (by omega)
        clear e2 hb hz hs
        go_wp2
        go_round
        case rel => exact ⟨k + 1, by omega, by go_num, by rw [HS.out]⟩
        case measure => simp [intOf]; omega
      · obtain rfl : k = wn := by omega
        have hltz : ¬ (k : Int) < (k : Int) := by omega
        go_wp2
        go_ret2
        exact ⟨HB1.out, _, true, rfl, by simpa using HOK.out, rfl⟩
set_option maxHeartbeats 4000000 in
set_option maxRecDepth 100000 in
theorem implRegs (B : Nat) (da : Option Addr) (dn dc : Nat) (ds : List Int) (wa : Option Addr) (wn wc : Nat) (F : List Int) (w : World) (hf : Fl w B da dn dc ds wa wn wc F) (hdl : dn ≤ 1048576) (hwl : wn ≤ 1048576) :
    Calls Try.prog 23 #[.agg #[.slice da dn dc, .slice wa wn wc]] w fun r w' => RgR ds wn F w r w' := by
  obtain ⟨w0, hw0⟩ : ∃ w0, w.alloc (.cells #[.slice da dn dc, .slice wa wn wc] 36) = w0 := ⟨_, rfl⟩
  have hb0 : Below w.heap.size w w0 := by rw [← hw0]; exact (Below.refl _ _).alloc (Nat.le_refl _) _
  have hlt0 : w.heap.size < w0.heap.size := by rw [← hw0]; simp
  have HP : Hid (At2 w0 w.heap.size (.slice da dn dc) (.slice wa wn wc)) := by rw [← hw0]; exact At2.new w _ _ _
  have HF := Lib.hid (hf.keep hb0 (Nat.le_refl _))
  have HB0 := Lib.hid hb0
  have HI := Lib.hid (implValid B da dn dc ds wa wn wc F w0 HF.out hdl hwl)
  obtain ⟨c0, c1, -, -⟩ := HP.out
  clear hf hb0
  go_enter Try.func23, Try.ntmps23
  go_wp2_with fail
  refine HI.out.mono ?_; rintro r w1 ⟨b1, ok, rfl, hok⟩
  have HB1 := Lib.hid (HB0.out.trans (b1.mono HB0.out.size))
  have HB01 := Lib.hid b1
  have HOK := Lib.hid hok
  clear b1 hok hw0 c0 c1
  cases ok with
  | false =>
    go_wp2
    go_ret2
    exact ⟨HB1.out, 0, false, rfl, HOK.out, rfl⟩
  | true =>
    obtain ⟨-, -, q3, -, q5⟩ := form_ok (HOK.out.1 rfl).1
    have HBN := Lib.hid (rgS_bnd (F := F) (n := wn) (fun k hk => (q5 k hk).2.2))
    have HQ5 := Lib.hid q5
    obtain ⟨c0, c1, -, -⟩ := HP.out.below HB01.out hlt0
    have HW1 : Hid (Below w0.heap.size w0 w1) := HB01.out
    clear q5
    go_wp2
    go_loopw [4, 6, 13] (fun s _ i wr => ∃ k : Nat, k ≤ wn ∧ i = .int .i64 (k : Int) ∧ s = .int .i64 (rgS F k) ∧ Hid (Below w0.heap.size w0 wr)) (fun _ _ i _ => wn - (intOf i).toNat)
    case atStart => exact ⟨0, Nat.zero_le _, rfl, rfl, HW1⟩
    case round =>
      obtain ⟨k, hk, rfl, rfl, HW⟩ := hrel
      clear HW1
      by_cases hlt : k < wn
      · have hltz : (k : Int) < (wn : Int) := by omega
        obtain ⟨g, x, y, z, rfl, -, -, ⟨-, -, e2⟩, x0, x1, x2⟩ := (HF.out.r.keep HW.out (Nat.le_refl _)).at k hlt
        have hb := HBN.out k hk
        have hz := (HQ5.out k hlt).2.2
        rw [e2] at hz
        have HS : Hid (rgS F (k + 1) = rgS F k + z) := by show _ = _; rw [← e2]; rfl
        obtain ⟨s, hs⟩ : ∃ s, rgS F k = s := ⟨_, rfl⟩
        rw [hs] at hb HS ⊢
        have hwr : IntKind.i64.wrap (s + z) = s + z := IntWalk.i64_in _ (by omega)
        have HAL : Hid (∀ o, Below w0.heap.size w0 (wr.alloc o)) := fun o => HW.out.alloc HW.out.size o
        clear e2 hb hz hs
        go_wp2
        go_roundw
        case rel => exact ⟨k + 1, by omega, by go_num, by rw [HS.out], HAL.out _⟩
        case measure => simp [intOf]; omega
      · obtain rfl : k = wn := by omega
        have hltz : ¬ (k : Int) < (k : Int) := by omega
        go_wp2
        go_ret2
        exact ⟨HB0.out.trans (HW.out.mono HB0.out.size), _, true, rfl, by simpa using HOK.out, rfl⟩
end Go.Proofs.Ytlpdiodkolcfcaa
