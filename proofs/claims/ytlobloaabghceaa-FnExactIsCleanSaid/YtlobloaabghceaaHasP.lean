/- Is there a pulse of a clock that begins at x and ends at y (or any end, where y is the wave's length)? On the model's side. -/
import Derived.Test.YtlobloaabghceaaShort
namespace Go.Proofs.Ytlobloaabghceaa
open Go.RowKit Go.Shelf
set_option linter.unusedVariables false
set_option linter.unusedSimpArgs false

def hasB (n x y : Int) (us es : List Int) (i : Nat) : Bool := decide (us.getD i 0 = x) && (decide (es.getD i 0 = y) || decide (y = n))
def hasL (n x y : Int) (us es : List Int) : Bool := (List.range us.length).any (hasB n x y us es)
theorem hasL_hit {n x y : Int} {us es : List Int} (k : Nat) (h : k < us.length) (hp : hasB n x y us es k = true) : hasL n x y us es = true := List.any_eq_true.2 ⟨k, List.mem_range.2 h, hp⟩
theorem hasL_miss {n x y : Int} {us es : List Int} (h : ∀ j, j < us.length → hasB n x y us es j = false) : hasL n x y us es = false := by
  unfold hasL
  rw [List.any_eq_false]
  intro j hj
  simp [h j (List.mem_range.1 hj)]

set_option maxHeartbeats 4000000 in
set_option maxRecDepth 100000 in
theorem specHas (x y : Int) (s : ByteArray) (w : World) (hs : s.size ≤ 400) (hw : waveB s.data.toList = true) :
    Calls Try.prog 49 #[.string s, .int .i64 x, .int .i64 y] w fun e w' => e = .returned (.bool (hasL (s.size : Int) x y (edgesL 49 s.data.toList s.size) (endsL (s.size : Int) (edgesL 49 s.data.toList s.size) (edgesL 48 s.data.toList s.size)))) ∧ Below w.heap.size w w' := by
  have hall := wave_all hw
  have hbal : (edgesL 49 s.data.toList s.size).length = (edgesL 48 s.data.toList s.size).length ∨ (edgesL 49 s.data.toList s.size).length = (edgesL 48 s.data.toList s.size).length + 1 := by
    rcases edges_turn s hall s.size (Nat.le_refl _) with h | h
    · exact .inl h.2
    · exact .inr h.2
  have hel := endsL_len (s.size : Int) _ _ hbal
  have HF := Lib.hid (fun w => specPul s w hs)
  have len1 := edgesL_len 49 s.data.toList s.size
  obtain ⟨us, hus⟩ : ∃ us, edgesL 49 s.data.toList s.size = us := ⟨_, rfl⟩
  rw [hus] at HF len1 hel ⊢
  obtain ⟨es, hes⟩ : ∃ es, endsL (s.size : Int) us (edgesL 48 s.data.toList s.size) = es := ⟨_, rfl⟩
  rw [hes] at HF hel ⊢
  clear hus hes hbal hw hall
  go_enter Try.func49, Try.ntmps49
  go_wp2_with fail
  refine (HF.out _).mono ?_; rintro e w2 ⟨v1, v2, rfl, i1, i2, b2⟩
  have HI1 := Lib.hid i1
  have HI2 := Lib.hid i2
  have HB2 := Lib.hid b2
  have hz2s := b2.size
  obtain ⟨a1, cap1, rfl, hm1, _⟩ := i1.form
  obtain ⟨a2, cap2, rfl, hm2, _⟩ := i2.form
  rw [hel]
  clear i1 i2 b2
  go_wp2
  go_loopw [9] (fun i wr => ∃ k : Nat, k ≤ us.length ∧ i = .int .i64 k ∧ Hid (∀ j, j < k → hasB (s.size : Int) x y us es j = false) ∧ Hid (Below w2.heap.size w2 wr)) (fun i _ => us.length - (intOf i).toNat)
  case atStart => exact ⟨0, Nat.zero_le _, rfl, Lib.hid (fun j hj => absurd hj (Nat.not_lt_zero _)), Lib.hid (Below.refl _ _)⟩
  case round =>
    obtain ⟨k, hk, rfl, HA, HBW⟩ := hrel
    by_cases hlt : k < us.length
    · have hltI : (k : Int) < (us.length : Int) := by omega
      have hlt2 : k < es.length := by omega
      obtain ⟨g1, rfl, hg1, hg1s, cu⟩ := (HI1.out.keep HBW.out (Nat.le_refl _)).at k hlt
      obtain ⟨g2, rfl, hg2, hg2s, ce⟩ := Ints.at (n := us.length) (cap := cap2) (a := a2) (l := es) (by have := HI2.out.keep HBW.out (Nat.le_refl _); rw [hel] at this; exact this) k (by omega)
      have HQ : Hid (hasB (s.size : Int) x y us es k = (decide (us.getD k 0 = x) && (decide (es.getD k 0 = y) || decide (y = (s.size : Int))))) := rfl
      obtain ⟨u, hu⟩ : ∃ u, us.getD k 0 = u := ⟨_, rfl⟩
      obtain ⟨d, hd⟩ : ∃ u, es.getD k 0 = u := ⟨_, rfl⟩
      rw [hu] at cu HQ
      rw [hd] at ce HQ
      clear hu hd
      have HSTEP : Hid (hasB (s.size : Int) x y us es k = false → ∀ j, j < k + 1 → hasB (s.size : Int) x y us es j = false) := fun h j hj => by
        by_cases e : j = k
        · rw [e]; exact h
        · exact HA.out j (by omega)
      have HHIT : Hid (hasB (s.size : Int) x y us es k = true → hasL (s.size : Int) x y us es = true) := fun h => hasL_hit k hlt h
      have HBN : ∀ nq, Hid (Below w2.heap.size w2 (wr.drewN nq)) := fun nq => below_drewN nq HBW.out
      by_cases h1 : u = x
      · subst h1
        by_cases h2 : d = y
        · subst h2
          have HV := Lib.hid (HHIT.out (by rw [HQ.out]; simp))
          clear HQ HSTEP HHIT
          go_wp2
          go_ret
          exact ⟨ret_bool (by rw [HV.out]), HB2.out.trans (HBW.out.mono hz2s)⟩
        · have e2 : (d == y) = false := by simp [h2]
          by_cases h3 : y = (s.size : Int)
          · have HV := Lib.hid (HHIT.out (by rw [HQ.out]; simp [h3]))
            have e3 : (y == (s.size : Int)) = true := by simp [h3]
            clear HQ HSTEP HHIT h2 h3
            go_wp2
            go_ret
            exact ⟨ret_bool (by rw [HV.out]), HB2.out.trans (HBW.out.mono hz2s)⟩
          · have HV := Lib.hid (HSTEP.out (by rw [HQ.out]; simp [h2, h3]))
            have e3 : (y == (s.size : Int)) = false := by simp [h3]
            clear HQ HSTEP HHIT h2 h3
            go_wp2
            go_roundw
            case rel => exact ⟨k + 1, by omega, by go_num, HV, HBW⟩
            case measure => simp [intOf]; omega
      · have HV := Lib.hid (HSTEP.out (by rw [HQ.out]; simp [h1]))
        have e1 : (u == x) = false := by simp [h1]
        clear HQ HSTEP HHIT h1
        go_wp2
        go_roundw
        case rel => exact ⟨k + 1, by omega, by go_num, HV, HBW⟩
        case measure => simp [intOf]; omega
    · obtain rfl : k = us.length := by omega
      have HV := Lib.hid (hasL_miss HA.out)
      go_wp2
      go_ret
      exact ⟨ret_bool (by rw [HV.out]), HB2.out.trans (HBW.out.mono hz2s)⟩
end Go.Proofs.Ytlobloaabghceaa
