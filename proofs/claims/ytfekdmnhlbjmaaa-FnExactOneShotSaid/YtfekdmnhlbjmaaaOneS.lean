/- Shots: both sides, and the law's walk. -/
import Derived.Test.YtfekdmnhlbjmaaaFiltSh
import Derived.Test.YtfekdmnhlbjmaaaFltI
namespace Go.Proofs.Ytfekdmnhlbjmaaa
open Go.RowKit Go.Shelf
set_option linter.unusedVariables false
set_option linter.unusedSimpArgs false

theorem level8b {b : Bool} (c : Bool) (h : b = c) (w : World) : Calls Try.prog 50 #[.bool b] w fun e w' => e = .returned (.int .u8 ((lvU c).toNat : Int)) ∧ w = w' := by subst h; exact level8 b w
theorem shot_new (w : World) (ag : Bool) : ShotAt (w.alloc (.cells #[.bool false, .bool ag] TSho)) w.heap.size false ag := by unfold ShotAt World.alloc; simp
set_option maxHeartbeats 1000000 in
theorem implOne_t (s : ByteArray) (T : Nat) (g : Int) (w : World) (hs : s.size ≤ maxLen) (hc : canB s (T : Int) = true) (hg : g = 0 ∨ g = 1) :
    Calls Try.prog 28 #[.string s, .int .i64 (T : Int), .int .i64 g] w fun e w' => e = .returned (.tuple #[.string (outS (shotL (g == 1) T s) s.size), .bool true]) ∧ Below w.heap.size w w' := by
  have HF := Lib.hid (shot_any s T w.heap.size (g == 1) _ hs hc (shot_new w (g == 1)))
  obtain ⟨ag, hag⟩ : ∃ b, (g == 1) = b := ⟨_, rfl⟩
  rw [hag] at HF ⊢
  go_enter Try.func28, Try.ntmps28
  go_wp2_with fail
  refine (within_i64_t _ _ _ _ (by omega) (by omega)).mono ?_; rintro e w' ⟨rfl, rfl⟩
  go_wp2_with fail
  refine HF.out.mono ?_; rintro e w1 ⟨rfl, g1⟩
  have HB := Lib.hid (below_boxed _ g1)
  clear g1
  go_wp2
  go_ret2
  exact ⟨rfl, HB.out⟩
theorem implOne_f (s : ByteArray) (T g : Int) (w : World) (hs : s.size ≤ maxLen) (h : ¬ (canB s T = true ∧ (g = 0 ∨ g = 1))) :
    Calls Try.prog 28 #[.string s, .int .i64 T, .int .i64 g] w fun e w' => e = .returned (.tuple #[.string ⟨#[]⟩, .bool false]) ∧ Below w.heap.size w w' := by
  by_cases hg : g = 0 ∨ g = 1
  · have hc : canB s T = false := by
      cases q : canB s T with
      | false => rfl
      | true => exact absurd ⟨q, hg⟩ h
    obtain ⟨ag, hag⟩ : ∃ b, (g == 1) = b := ⟨_, rfl⟩
    go_enter Try.func28, Try.ntmps28
    go_wp2_with fail
    refine (within_i64_t _ _ _ _ (by omega) (by omega)).mono ?_; rintro e w' ⟨rfl, rfl⟩
    go_wp2_with fail
    refine (filt_none s T _ _ hs hc).mono ?_; rintro e w1 ⟨rfl, b1⟩
    go_wp2
    go_ret2
    exact ⟨rfl, ((Below.refl _ w).alloc (Nat.le_refl _) _).trans (b1.mono (by simp))⟩
  · go_enter Try.func28, Try.ntmps28
    go_wp2_with fail
    refine (within_i64_f _ _ _ _ (by omega)).mono ?_; rintro e w' ⟨rfl, rfl⟩
    go_wp2
    go_ret2
    exact ⟨rfl, Below.refl _ _⟩
theorem specOne_f (s : ByteArray) (T g : Int) (w : World) (hs : s.size ≤ maxLen) (h : ¬ (canB s T = true ∧ (g = 0 ∨ g = 1))) :
    Calls Try.prog 27 #[.string s, .int .i64 T, .int .i64 g] w fun e w' => e = .returned (.tuple #[.string ⟨#[]⟩, .bool false]) ∧ Below w.heap.size w w' := by
  have HF := Lib.hid (fun w => l09F_any s T w hs)
  cases hc : canB s T with
  | false =>
    rw [hc] at HF
    go_enter Try.func27, Try.ntmps27
    go_wp2_with fail
    refine (HF.out _).mono ?_; rintro e w1 ⟨rfl, rfl⟩
    go_wp2
    go_ret2
    exact ⟨rfl, Below.refl _ _⟩
  | true =>
    rw [hc] at HF
    have hg : g < 0 ∨ 1 < g := by
      rcases Decidable.em (g = 0 ∨ g = 1) with q | q
      · exact absurd ⟨hc, q⟩ h
      · omega
    go_enter Try.func27, Try.ntmps27
    go_wp2_with fail
    refine (HF.out _).mono ?_; rintro e w1 ⟨rfl, rfl⟩
    go_wp2_with fail
    refine (l00In_f _ _ _ _ hg).mono ?_; rintro e w' ⟨rfl, rfl⟩
    go_wp2
    go_ret2
    exact ⟨rfl, Below.refl _ _⟩
theorem up_parts (s : ByteArray) (k : Nat) (h : k < s.size) (hw : waveB s.data.toList = true) : (k = 0 → upB s k = bit s k) ∧ (∀ j, k = j + 1 → upB s k = (bit s k && !bit s j)) := by
  refine ⟨fun q => by subst q; simp [upB], fun j q => by subst q; simp [upB]⟩
theorem l00Max_pred (l : Nat) (w : World) :
    Calls Try.prog 54 #[.int .i64 0, .int .i64 ((l : Int) - 1)] w fun e w' => e = .returned (.int .i64 ((l - 1 : Nat) : Int)) ∧ w = w' :=
  l00Max_z (l - 1) ((l : Int) - 1) w (by omega)
set_option maxHeartbeats 4000000 in
set_option maxRecDepth 100000 in
theorem specOne_0 (s : ByteArray) (T : Nat) (w : World) (hs : s.size ≤ maxLen) (hc : canB s (T : Int) = true) :
    Calls Try.prog 27 #[.string s, .int .i64 (T : Int), .int .i64 0] w fun e w' => e = .returned (.tuple #[.string (outS (shotL false T s) s.size), .bool true]) ∧ Below w.heap.size w w' := by
  obtain ⟨hw, hT1, hT2⟩ := canB_t hc
  have hz := wave_le hw
  have HWV := Lib.hid hw
  have HF := Lib.hid (fun w => l09F_any s (T : Int) w hs)
  rw [hc] at HF
  obtain ⟨i0, hi, hz0, hz1, hz2⟩ := info_parts info_u8
  obtain ⟨sh, hsh⟩ : ∃ sh, shB (upB s) false T = sh := ⟨_, rfl⟩
  have HSH := Lib.hid hsh
  clear hw hc hsh
  go_enter Try.func27, Try.ntmps27
  go_wp2_with fail
  refine (HF.out _).mono ?_; rintro e w1 ⟨rfl, rfl⟩
  go_wp2_with fail
  refine (l00In_t _ _ _ _ (by decide) (by decide)).mono ?_; rintro e w' ⟨rfl, rfl⟩
  go_wp2
  go_loopw [8, 9, 10] (fun v lf i wr => ∃ (k l : Nat) (L : Int), k ≤ s.size ∧ i = .int .i64 k ∧ lf = .int .i64 L ∧ Hid (L = (l : Int)) ∧ Hid (LeftB sh T k l) ∧ Hid (Buf wr w.heap.size v (outL (shotL false T s) k)) ∧ Hid (Below w.heap.size w wr)) (fun _ _ i _ => s.size - (intOf i).toNat)
  case atStart => exact ⟨0, 0, 0, Nat.zero_le _, rfl, rfl, rfl, Lib.hid (LeftB.start sh T), Lib.hid (Buf.lit w), Lib.hid ((Below.refl _ _).alloc (Nat.le_refl _) _)⟩
  case round =>
    obtain ⟨k, l, L, hk, rfl, rfl, HLI, HLB, HB, HBW⟩ := hrel
    by_cases hlt : k < s.size
    · have HLN := Lib.hid (outL_len (shotL false T s) k)
      have hsz := HBW.out.size
      have hlT := HLB.out.le
      have HST := Lib.hid (HLB.out.step (by omega))
      have hupe : sh k = (upB s k && (false || l == 0)) := by
        rw [← HLB.out.rest (by omega), ← HSH.out, shB_eq _ _ _ _ (by omega)]
      have HUP := Lib.hid hupe
      have hlast : decide (0 < lastC sh T (k + 1)) = shotL false T s k := by rw [← HSH.out]; rfl
      have e0 := bit_at s k hlt
      obtain ⟨u, hu⟩ : ∃ u, sh k = u := ⟨_, rfl⟩
      obtain ⟨l2, hl2⟩ : ∃ l2, (if sh k then T else l) = l2 := ⟨_, rfl⟩
      obtain ⟨y, hy⟩ : ∃ y, shotL false T s k = y := ⟨_, rfl⟩
      have HX : Hid (outL (shotL false T s) (k + 1) = outL (shotL false T s) k ++ [lvU y]) := by show _ = _; rw [outL_snoc, hy]
      rw [hl2, hlast, hy] at HST
      have HL2 : Hid (l2 = if u then T else l) := by show _ = _; rw [← hl2, hu]
      have HU : Hid (u = (upB s k && (false || l == 0))) := by show _ = _; rw [← hu]; exact hupe
      have hl2T : l2 ≤ 50 := by rw [← hl2]; split <;> omega
      have hwl : IntKind.i64.wrap ((l2 : Int) - 1) = (l2 : Int) - 1 := IntWalk.i64_in _ (by omega)
      have HPOS : Hid (y = decide (0 < l2)) := HST.out.2
      clear hupe hlast hu hl2 hy
      cases hx : bit s k with
      | false =>
        rw [hx] at e0
        have hup : upB s k = false := by simp [upB, hx]
        clear hx
        have hu1 : u = false := by rw [HU.out, hup]; rfl
        rw [hu1] at HL2
        by_cases hl0 : 0 < l
        ·
          have hl2 : l2 = l := by rw [HL2.out]; simp
          rw [hl2] at HST hwl hl2T HPOS
          have hLI := HLI.out
          have hwL : IntKind.i64.wrap (L - 1) = L - 1 := IntWalk.i64_in _ (by omega)
          have c1 : (0 : Int) < L := by omega
          have c2 := decide_eq_true c1
          clear hLI
          have hyy : y = true := by rw [HPOS.out]; simp; omega
          rw [hyy] at HX
          clear hl2 HL2 HPOS hyy HU
          go_wp2_with (first | (at_builtin; refine wpList_append_own _ rfl _ _ 51 rfl w.heap.size 5 i0 (.int .u8 0) 1 1 Try.underlying51 hi hz0 hz1 hz2 rfl (by decide) _ _ _ rfl (HB.out.alloc _) ⟨wr.heap.size, 0, none⟩ 1 1 [.int .u8 ((lvU true).toNat : Int)] rfl rfl ?b1 ?b2 ?b3 ?b4 ?b5 ?_) | (go_at_call 50; first | ((with_reducible refine (level8 true _).mono ?_); rintro e w' ⟨rfl, rfl⟩) | ((with_reducible refine (level8b true ?_ _).mono ?_); (focus (simp [c1]; done)); rintro e w' ⟨rfl, rfl⟩)))
          case b1 => exact cell_one_at8 _ _ _ _ (by first | rfl | simp)
          case b2 => simp [Value.oneCell']
          case b3 => rw [HLN.out]; unfold maxLen; omega
          case b4 => rw [HLN.out]; omega
          case b5 => first | omega | (simp; omega)
          intro v' w7 hown' hgrow _
          have HO := Lib.hid (Buf.snoc (b := lvU true) hown')
          have HW7 := Lib.hid (Buf.below HBW.out HB.out _ hgrow)
          clear hown' hgrow
          go_wp2_with fail
          refine (l00Max_z (l - 1) (L - 1) _ (by have := HLI.out; omega)).mono ?_; rintro e w' ⟨rfl, rfl⟩
          go_wp2
          go_roundw
          case rel => exact ⟨k + 1, l - 1, _, by omega, by go_num, rfl, rfl, HST.out.1, by rw [HX.out]; exact HO, HW7⟩
          case measure => simp [intOf]; omega
        ·
          have hl2 : l2 = l := by rw [HL2.out]; simp
          rw [hl2] at HST hwl hl2T HPOS
          have hLI := HLI.out
          have hwL : IntKind.i64.wrap (L - 1) = L - 1 := IntWalk.i64_in _ (by omega)
          have c1 : ¬ (0 : Int) < L := by omega
          have c2 := decide_eq_false c1
          clear hLI
          have hyy : y = false := by rw [HPOS.out]; simp; omega
          rw [hyy] at HX
          clear hl2 HL2 HPOS hyy HU
          go_wp2_with (first | (at_builtin; refine wpList_append_own _ rfl _ _ 51 rfl w.heap.size 5 i0 (.int .u8 0) 1 1 Try.underlying51 hi hz0 hz1 hz2 rfl (by decide) _ _ _ rfl (HB.out.alloc _) ⟨wr.heap.size, 0, none⟩ 1 1 [.int .u8 ((lvU false).toNat : Int)] rfl rfl ?c1 ?c2 ?c3 ?c4 ?c5 ?_) | (go_at_call 50; first | ((with_reducible refine (level8 false _).mono ?_); rintro e w' ⟨rfl, rfl⟩) | ((with_reducible refine (level8b false ?_ _).mono ?_); (focus (simp [c1]; done)); rintro e w' ⟨rfl, rfl⟩)))
          case c1 => exact cell_one_at8 _ _ _ _ (by first | rfl | simp)
          case c2 => simp [Value.oneCell']
          case c3 => rw [HLN.out]; unfold maxLen; omega
          case c4 => rw [HLN.out]; omega
          case c5 => first | omega | (simp; omega)
          intro v' w7 hown' hgrow _
          have HO := Lib.hid (Buf.snoc (b := lvU false) hown')
          have HW7 := Lib.hid (Buf.below HBW.out HB.out _ hgrow)
          clear hown' hgrow
          go_wp2_with fail
          refine (l00Max_z (l - 1) (L - 1) _ (by have := HLI.out; omega)).mono ?_; rintro e w' ⟨rfl, rfl⟩
          go_wp2
          go_roundw
          case rel => exact ⟨k + 1, l - 1, _, by omega, by go_num, rfl, rfl, HST.out.1, by rw [HX.out]; exact HO, HW7⟩
          case measure => simp [intOf]; omega
      | true =>
        rw [hx] at e0
        by_cases hk0 : k = 0
        · have h0 : ((k : Int) == 0) = true := by simp [hk0]
          have hup : upB s k = true := by unfold upB; rw [hx, show decide (0 < k) = false from by simp [hk0]]; rfl
          clear hx hk0
          by_cases hl0 : l = 0
          · have hl0e : (L == 0) = true := by rw [HLI.out, hl0]; rfl
            have hu1 : u = true := by rw [HU.out, hup, hl0]; rfl
            rw [hu1] at HL2
            clear hl0
            have hl2 : l2 = T := by rw [HL2.out]; simp
            rw [hl2] at HST hwl hl2T HPOS
            have c1 : (0 : Int) < (T : Int) := by omega
            have c2 := decide_eq_true c1
            have c3 : 0 < T := by omega
            have c4 := decide_eq_true c3
            have hyy : y = true := by rw [HPOS.out]; simp; omega
            rw [hyy] at HX
            clear hl2 HL2 HPOS hyy HU
            go_wp2_with (first | (at_builtin; refine wpList_append_own _ rfl _ _ 51 rfl w.heap.size 5 i0 (.int .u8 0) 1 1 Try.underlying51 hi hz0 hz1 hz2 rfl (by decide) _ _ _ rfl (HB.out.alloc _) ⟨wr.heap.size, 0, none⟩ 1 1 [.int .u8 ((lvU true).toNat : Int)] rfl rfl ?d1 ?d2 ?d3 ?d4 ?d5 ?_) | (go_at_call 50; first | ((with_reducible refine (level8 true _).mono ?_); rintro e w' ⟨rfl, rfl⟩) | ((with_reducible refine (level8b true ?_ _).mono ?_); (focus (simp [c1]; done)); rintro e w' ⟨rfl, rfl⟩)))
            case d1 => exact cell_one_at8 _ _ _ _ (by first | rfl | simp)
            case d2 => simp [Value.oneCell']
            case d3 => rw [HLN.out]; unfold maxLen; omega
            case d4 => rw [HLN.out]; omega
            case d5 => first | omega | (simp; omega)
            intro v' w7 hown' hgrow _
            have HO := Lib.hid (Buf.snoc (b := lvU true) hown')
            have HW7 := Lib.hid (Buf.below HBW.out HB.out _ hgrow)
            clear hown' hgrow
            go_wp2_with fail
            refine (l00Max_z (T - 1) ((T : Int) - 1) _ (by have := HLI.out; omega)).mono ?_; rintro e w' ⟨rfl, rfl⟩
            go_wp2
            go_roundw
            case rel => exact ⟨k + 1, T - 1, _, by omega, by go_num, rfl, rfl, HST.out.1, by rw [HX.out]; exact HO, HW7⟩
            case measure => simp [intOf]; omega
          · have hl0e : (L == 0) = false := by rw [HLI.out]; simp [hl0]
            have hu1 : u = false := by rw [HU.out, hup]; simp [hl0]
            rw [hu1] at HL2
            have hl2 : l2 = l := by rw [HL2.out]; simp
            rw [hl2] at HST hwl hl2T HPOS
            have hLI := HLI.out
            have hwL : IntKind.i64.wrap (L - 1) = L - 1 := IntWalk.i64_in _ (by omega)
            have c1 : (0 : Int) < L := by omega
            have c2 := decide_eq_true c1
            clear hLI
            have hyy : y = true := by rw [HPOS.out]; simp; omega
            rw [hyy] at HX
            clear hl2 HL2 HPOS hyy HU
            go_wp2_with (first | (at_builtin; refine wpList_append_own _ rfl _ _ 51 rfl w.heap.size 5 i0 (.int .u8 0) 1 1 Try.underlying51 hi hz0 hz1 hz2 rfl (by decide) _ _ _ rfl (HB.out.alloc _) ⟨wr.heap.size, 0, none⟩ 1 1 [.int .u8 ((lvU true).toNat : Int)] rfl rfl ?e1 ?e2 ?e3 ?e4 ?e5 ?_) | (go_at_call 50; first | ((with_reducible refine (level8 true _).mono ?_); rintro e w' ⟨rfl, rfl⟩) | ((with_reducible refine (level8b true ?_ _).mono ?_); (focus (simp [c1]; done)); rintro e w' ⟨rfl, rfl⟩)))
            case e1 => exact cell_one_at8 _ _ _ _ (by first | rfl | simp)
            case e2 => simp [Value.oneCell']
            case e3 => rw [HLN.out]; unfold maxLen; omega
            case e4 => rw [HLN.out]; omega
            case e5 => first | omega | (simp; omega)
            intro v' w7 hown' hgrow _
            have HO := Lib.hid (Buf.snoc (b := lvU true) hown')
            have HW7 := Lib.hid (Buf.below HBW.out HB.out _ hgrow)
            clear hown' hgrow
            go_wp2_with fail
            refine (l00Max_z (l - 1) (L - 1) _ (by have := HLI.out; omega)).mono ?_; rintro e w' ⟨rfl, rfl⟩
            go_wp2
            go_roundw
            case rel => exact ⟨k + 1, l - 1, _, by omega, by go_num, rfl, rfl, HST.out.1, by rw [HX.out]; exact HO, HW7⟩
            case measure => simp [intOf]; omega
        · obtain ⟨j, hj⟩ : ∃ j, k - 1 = j := ⟨_, rfl⟩
          have h0 : ((k : Int) == 0) = false := by simp [hk0]
          have hwj : IntKind.i64.wrap ((k : Int) - 1) = (j : Int) := by rw [IntWalk.i64_in _ (by omega)]; omega
          have hjs : j < s.size := by omega
          have hjI : (k : Int) - 1 = (j : Int) := by omega
          have ewj := wave_at HWV.out j hjs
          cases hp : bit s j with
          | true =>
            have ej : ((s[j].toNat : Int) == 48) = false := by rw [ewj, hp]; rfl
            have hup : upB s k = false := by unfold upB; rw [hj, hp, hx]; simp; omega
            clear hx hp hj ewj
            have hu1 : u = false := by rw [HU.out, hup]; rfl
            rw [hu1] at HL2
            by_cases hl0 : 0 < l
            ·
              have hl2 : l2 = l := by rw [HL2.out]; simp
              rw [hl2] at HST hwl hl2T HPOS
              have hLI := HLI.out
              have hwL : IntKind.i64.wrap (L - 1) = L - 1 := IntWalk.i64_in _ (by omega)
              have c1 : (0 : Int) < L := by omega
              have c2 := decide_eq_true c1
              clear hLI
              have hyy : y = true := by rw [HPOS.out]; simp; omega
              rw [hyy] at HX
              clear hl2 HL2 HPOS hyy HU
              go_wp2_with (first | (at_builtin; refine wpList_append_own _ rfl _ _ 51 rfl w.heap.size 5 i0 (.int .u8 0) 1 1 Try.underlying51 hi hz0 hz1 hz2 rfl (by decide) _ _ _ rfl (HB.out.alloc _) ⟨wr.heap.size, 0, none⟩ 1 1 [.int .u8 ((lvU true).toNat : Int)] rfl rfl ?f1 ?f2 ?f3 ?f4 ?f5 ?_) | (go_at_call 50; first | ((with_reducible refine (level8 true _).mono ?_); rintro e w' ⟨rfl, rfl⟩) | ((with_reducible refine (level8b true ?_ _).mono ?_); (focus (simp [c1]; done)); rintro e w' ⟨rfl, rfl⟩)))
              case f1 => exact cell_one_at8 _ _ _ _ (by first | rfl | simp)
              case f2 => simp [Value.oneCell']
              case f3 => rw [HLN.out]; unfold maxLen; omega
              case f4 => rw [HLN.out]; omega
              case f5 => first | omega | (simp; omega)
              intro v' w7 hown' hgrow _
              have HO := Lib.hid (Buf.snoc (b := lvU true) hown')
              have HW7 := Lib.hid (Buf.below HBW.out HB.out _ hgrow)
              clear hown' hgrow
              go_wp2_with fail
              refine (l00Max_z (l - 1) (L - 1) _ (by have := HLI.out; omega)).mono ?_; rintro e w' ⟨rfl, rfl⟩
              go_wp2
              go_roundw
              case rel => exact ⟨k + 1, l - 1, _, by omega, by go_num, rfl, rfl, HST.out.1, by rw [HX.out]; exact HO, HW7⟩
              case measure => simp [intOf]; omega
            ·
              have hl2 : l2 = l := by rw [HL2.out]; simp
              rw [hl2] at HST hwl hl2T HPOS
              have hLI := HLI.out
              have hwL : IntKind.i64.wrap (L - 1) = L - 1 := IntWalk.i64_in _ (by omega)
              have c1 : ¬ (0 : Int) < L := by omega
              have c2 := decide_eq_false c1
              clear hLI
              have hyy : y = false := by rw [HPOS.out]; simp; omega
              rw [hyy] at HX
              clear hl2 HL2 HPOS hyy HU
              go_wp2_with (first | (at_builtin; refine wpList_append_own _ rfl _ _ 51 rfl w.heap.size 5 i0 (.int .u8 0) 1 1 Try.underlying51 hi hz0 hz1 hz2 rfl (by decide) _ _ _ rfl (HB.out.alloc _) ⟨wr.heap.size, 0, none⟩ 1 1 [.int .u8 ((lvU false).toNat : Int)] rfl rfl ?g1 ?g2 ?g3 ?g4 ?g5 ?_) | (go_at_call 50; first | ((with_reducible refine (level8 false _).mono ?_); rintro e w' ⟨rfl, rfl⟩) | ((with_reducible refine (level8b false ?_ _).mono ?_); (focus (simp [c1]; done)); rintro e w' ⟨rfl, rfl⟩)))
              case g1 => exact cell_one_at8 _ _ _ _ (by first | rfl | simp)
              case g2 => simp [Value.oneCell']
              case g3 => rw [HLN.out]; unfold maxLen; omega
              case g4 => rw [HLN.out]; omega
              case g5 => first | omega | (simp; omega)
              intro v' w7 hown' hgrow _
              have HO := Lib.hid (Buf.snoc (b := lvU false) hown')
              have HW7 := Lib.hid (Buf.below HBW.out HB.out _ hgrow)
              clear hown' hgrow
              go_wp2_with fail
              refine (l00Max_z (l - 1) (L - 1) _ (by have := HLI.out; omega)).mono ?_; rintro e w' ⟨rfl, rfl⟩
              go_wp2
              go_roundw
              case rel => exact ⟨k + 1, l - 1, _, by omega, by go_num, rfl, rfl, HST.out.1, by rw [HX.out]; exact HO, HW7⟩
              case measure => simp [intOf]; omega
          | false =>
            have ej : ((s[j].toNat : Int) == 48) = true := by rw [ewj, hp]; rfl
            have hup : upB s k = true := by unfold upB; rw [hj, hp, hx]; simp
            clear hx hp hj ewj
            by_cases hl0 : l = 0
            · have hl0e : (L == 0) = true := by rw [HLI.out, hl0]; rfl
              have hu1 : u = true := by rw [HU.out, hup, hl0]; rfl
              rw [hu1] at HL2
              clear hl0
              have hl2 : l2 = T := by rw [HL2.out]; simp
              rw [hl2] at HST hwl hl2T HPOS
              have c1 : (0 : Int) < (T : Int) := by omega
              have c2 := decide_eq_true c1
              have c3 : 0 < T := by omega
              have c4 := decide_eq_true c3
              have hyy : y = true := by rw [HPOS.out]; simp; omega
              rw [hyy] at HX
              clear hl2 HL2 HPOS hyy HU
              go_wp2_with (first | (at_builtin; refine wpList_append_own _ rfl _ _ 51 rfl w.heap.size 5 i0 (.int .u8 0) 1 1 Try.underlying51 hi hz0 hz1 hz2 rfl (by decide) _ _ _ rfl (HB.out.alloc _) ⟨wr.heap.size, 0, none⟩ 1 1 [.int .u8 ((lvU true).toNat : Int)] rfl rfl ?h1 ?h2 ?h3 ?h4 ?h5 ?_) | (go_at_call 50; first | ((with_reducible refine (level8 true _).mono ?_); rintro e w' ⟨rfl, rfl⟩) | ((with_reducible refine (level8b true ?_ _).mono ?_); (focus (simp [c1]; done)); rintro e w' ⟨rfl, rfl⟩)))
              case h1 => exact cell_one_at8 _ _ _ _ (by first | rfl | simp)
              case h2 => simp [Value.oneCell']
              case h3 => rw [HLN.out]; unfold maxLen; omega
              case h4 => rw [HLN.out]; omega
              case h5 => first | omega | (simp; omega)
              intro v' w7 hown' hgrow _
              have HO := Lib.hid (Buf.snoc (b := lvU true) hown')
              have HW7 := Lib.hid (Buf.below HBW.out HB.out _ hgrow)
              clear hown' hgrow
              go_wp2_with fail
              refine (l00Max_z (T - 1) ((T : Int) - 1) _ (by have := HLI.out; omega)).mono ?_; rintro e w' ⟨rfl, rfl⟩
              go_wp2
              go_roundw
              case rel => exact ⟨k + 1, T - 1, _, by omega, by go_num, rfl, rfl, HST.out.1, by rw [HX.out]; exact HO, HW7⟩
              case measure => simp [intOf]; omega
            · have hl0e : (L == 0) = false := by rw [HLI.out]; simp [hl0]
              have hu1 : u = false := by rw [HU.out, hup]; simp [hl0]
              rw [hu1] at HL2
              have hl2 : l2 = l := by rw [HL2.out]; simp
              rw [hl2] at HST hwl hl2T HPOS
              have hLI := HLI.out
              have hwL : IntKind.i64.wrap (L - 1) = L - 1 := IntWalk.i64_in _ (by omega)
              have c1 : (0 : Int) < L := by omega
              have c2 := decide_eq_true c1
              clear hLI
              have hyy : y = true := by rw [HPOS.out]; simp; omega
              rw [hyy] at HX
              clear hl2 HL2 HPOS hyy HU
              go_wp2_with (first | (at_builtin; refine wpList_append_own _ rfl _ _ 51 rfl w.heap.size 5 i0 (.int .u8 0) 1 1 Try.underlying51 hi hz0 hz1 hz2 rfl (by decide) _ _ _ rfl (HB.out.alloc _) ⟨wr.heap.size, 0, none⟩ 1 1 [.int .u8 ((lvU true).toNat : Int)] rfl rfl ?i1 ?i2 ?i3 ?i4 ?i5 ?_) | (go_at_call 50; first | ((with_reducible refine (level8 true _).mono ?_); rintro e w' ⟨rfl, rfl⟩) | ((with_reducible refine (level8b true ?_ _).mono ?_); (focus (simp [c1]; done)); rintro e w' ⟨rfl, rfl⟩)))
              case i1 => exact cell_one_at8 _ _ _ _ (by first | rfl | simp)
              case i2 => simp [Value.oneCell']
              case i3 => rw [HLN.out]; unfold maxLen; omega
              case i4 => rw [HLN.out]; omega
              case i5 => first | omega | (simp; omega)
              intro v' w7 hown' hgrow _
              have HO := Lib.hid (Buf.snoc (b := lvU true) hown')
              have HW7 := Lib.hid (Buf.below HBW.out HB.out _ hgrow)
              clear hown' hgrow
              go_wp2_with fail
              refine (l00Max_z (l - 1) (L - 1) _ (by have := HLI.out; omega)).mono ?_; rintro e w' ⟨rfl, rfl⟩
              go_wp2
              go_roundw
              case rel => exact ⟨k + 1, l - 1, _, by omega, by go_num, rfl, rfl, HST.out.1, by rw [HX.out]; exact HO, HW7⟩
              case measure => simp [intOf]; omega
    · obtain rfl : k = s.size := by omega
      have hconv := run_buf_string _ _ _ _ HB.out
      go_wp2
      go_ret2
      exact ⟨rfl, HBW.out⟩
set_option maxHeartbeats 4000000 in
set_option maxRecDepth 100000 in
theorem specOne_1 (s : ByteArray) (T : Nat) (w : World) (hs : s.size ≤ maxLen) (hc : canB s (T : Int) = true) :
    Calls Try.prog 27 #[.string s, .int .i64 (T : Int), .int .i64 1] w fun e w' => e = .returned (.tuple #[.string (outS (shotL true T s) s.size), .bool true]) ∧ Below w.heap.size w w' := by
  obtain ⟨hw, hT1, hT2⟩ := canB_t hc
  have hz := wave_le hw
  have HWV := Lib.hid hw
  have HF := Lib.hid (fun w => l09F_any s (T : Int) w hs)
  rw [hc] at HF
  obtain ⟨i0, hi, hz0, hz1, hz2⟩ := info_parts info_u8
  obtain ⟨sh, hsh⟩ : ∃ sh, shB (upB s) true T = sh := ⟨_, rfl⟩
  have HSH := Lib.hid hsh
  clear hw hc hsh
  go_enter Try.func27, Try.ntmps27
  go_wp2_with fail
  refine (HF.out _).mono ?_; rintro e w1 ⟨rfl, rfl⟩
  go_wp2_with fail
  refine (l00In_t _ _ _ _ (by decide) (by decide)).mono ?_; rintro e w' ⟨rfl, rfl⟩
  go_wp2
  go_loopw [8, 9, 10] (fun v lf i wr => ∃ (k l : Nat) (L : Int), k ≤ s.size ∧ i = .int .i64 k ∧ lf = .int .i64 L ∧ Hid (L = (l : Int)) ∧ Hid (LeftB sh T k l) ∧ Hid (Buf wr w.heap.size v (outL (shotL true T s) k)) ∧ Hid (Below w.heap.size w wr)) (fun _ _ i _ => s.size - (intOf i).toNat)
  case atStart => exact ⟨0, 0, 0, Nat.zero_le _, rfl, rfl, rfl, Lib.hid (LeftB.start sh T), Lib.hid (Buf.lit w), Lib.hid ((Below.refl _ _).alloc (Nat.le_refl _) _)⟩
  case round =>
    obtain ⟨k, l, L, hk, rfl, rfl, HLI, HLB, HB, HBW⟩ := hrel
    by_cases hlt : k < s.size
    · have HLN := Lib.hid (outL_len (shotL true T s) k)
      have hsz := HBW.out.size
      have hlT := HLB.out.le
      have HST := Lib.hid (HLB.out.step (by omega))
      have hupe : sh k = (upB s k && (true || l == 0)) := by
        rw [← HLB.out.rest (by omega), ← HSH.out, shB_eq _ _ _ _ (by omega)]
      have HUP := Lib.hid hupe
      have hlast : decide (0 < lastC sh T (k + 1)) = shotL true T s k := by rw [← HSH.out]; rfl
      have e0 := bit_at s k hlt
      obtain ⟨u, hu⟩ : ∃ u, sh k = u := ⟨_, rfl⟩
      obtain ⟨l2, hl2⟩ : ∃ l2, (if sh k then T else l) = l2 := ⟨_, rfl⟩
      obtain ⟨y, hy⟩ : ∃ y, shotL true T s k = y := ⟨_, rfl⟩
      have HX : Hid (outL (shotL true T s) (k + 1) = outL (shotL true T s) k ++ [lvU y]) := by show _ = _; rw [outL_snoc, hy]
      rw [hl2, hlast, hy] at HST
      have HL2 : Hid (l2 = if u then T else l) := by show _ = _; rw [← hl2, hu]
      have HU : Hid (u = (upB s k && (true || l == 0))) := by show _ = _; rw [← hu]; exact hupe
      have hl2T : l2 ≤ 50 := by rw [← hl2]; split <;> omega
      have hwl : IntKind.i64.wrap ((l2 : Int) - 1) = (l2 : Int) - 1 := IntWalk.i64_in _ (by omega)
      have HPOS : Hid (y = decide (0 < l2)) := HST.out.2
      clear hupe hlast hu hl2 hy
      cases hx : bit s k with
      | false =>
        rw [hx] at e0
        have hup : upB s k = false := by simp [upB, hx]
        clear hx
        have hu1 : u = false := by rw [HU.out, hup]; rfl
        rw [hu1] at HL2
        by_cases hl0 : 0 < l
        ·
          have hl2 : l2 = l := by rw [HL2.out]; simp
          rw [hl2] at HST hwl hl2T HPOS
          have hLI := HLI.out
          have hwL : IntKind.i64.wrap (L - 1) = L - 1 := IntWalk.i64_in _ (by omega)
          have c1 : (0 : Int) < L := by omega
          have c2 := decide_eq_true c1
          clear hLI
          have hyy : y = true := by rw [HPOS.out]; simp; omega
          rw [hyy] at HX
          clear hl2 HL2 HPOS hyy HU
          go_wp2_with (first | (at_builtin; refine wpList_append_own _ rfl _ _ 51 rfl w.heap.size 5 i0 (.int .u8 0) 1 1 Try.underlying51 hi hz0 hz1 hz2 rfl (by decide) _ _ _ rfl (HB.out.alloc _) ⟨wr.heap.size, 0, none⟩ 1 1 [.int .u8 ((lvU true).toNat : Int)] rfl rfl ?b1 ?b2 ?b3 ?b4 ?b5 ?_) | (go_at_call 50; first | ((with_reducible refine (level8 true _).mono ?_); rintro e w' ⟨rfl, rfl⟩) | ((with_reducible refine (level8b true ?_ _).mono ?_); (focus (simp [c1]; done)); rintro e w' ⟨rfl, rfl⟩)))
          case b1 => exact cell_one_at8 _ _ _ _ (by first | rfl | simp)
          case b2 => simp [Value.oneCell']
          case b3 => rw [HLN.out]; unfold maxLen; omega
          case b4 => rw [HLN.out]; omega
          case b5 => first | omega | (simp; omega)
          intro v' w7 hown' hgrow _
          have HO := Lib.hid (Buf.snoc (b := lvU true) hown')
          have HW7 := Lib.hid (Buf.below HBW.out HB.out _ hgrow)
          clear hown' hgrow
          go_wp2_with fail
          refine (l00Max_z (l - 1) (L - 1) _ (by have := HLI.out; omega)).mono ?_; rintro e w' ⟨rfl, rfl⟩
          go_wp2
          go_roundw
          case rel => exact ⟨k + 1, l - 1, _, by omega, by go_num, rfl, rfl, HST.out.1, by rw [HX.out]; exact HO, HW7⟩
          case measure => simp [intOf]; omega
        ·
          have hl2 : l2 = l := by rw [HL2.out]; simp
          rw [hl2] at HST hwl hl2T HPOS
          have hLI := HLI.out
          have hwL : IntKind.i64.wrap (L - 1) = L - 1 := IntWalk.i64_in _ (by omega)
          have c1 : ¬ (0 : Int) < L := by omega
          have c2 := decide_eq_false c1
          clear hLI
          have hyy : y = false := by rw [HPOS.out]; simp; omega
          rw [hyy] at HX
          clear hl2 HL2 HPOS hyy HU
          go_wp2_with (first | (at_builtin; refine wpList_append_own _ rfl _ _ 51 rfl w.heap.size 5 i0 (.int .u8 0) 1 1 Try.underlying51 hi hz0 hz1 hz2 rfl (by decide) _ _ _ rfl (HB.out.alloc _) ⟨wr.heap.size, 0, none⟩ 1 1 [.int .u8 ((lvU false).toNat : Int)] rfl rfl ?c1 ?c2 ?c3 ?c4 ?c5 ?_) | (go_at_call 50; first | ((with_reducible refine (level8 false _).mono ?_); rintro e w' ⟨rfl, rfl⟩) | ((with_reducible refine (level8b false ?_ _).mono ?_); (focus (simp [c1]; done)); rintro e w' ⟨rfl, rfl⟩)))
          case c1 => exact cell_one_at8 _ _ _ _ (by first | rfl | simp)
          case c2 => simp [Value.oneCell']
          case c3 => rw [HLN.out]; unfold maxLen; omega
          case c4 => rw [HLN.out]; omega
          case c5 => first | omega | (simp; omega)
          intro v' w7 hown' hgrow _
          have HO := Lib.hid (Buf.snoc (b := lvU false) hown')
          have HW7 := Lib.hid (Buf.below HBW.out HB.out _ hgrow)
          clear hown' hgrow
          go_wp2_with fail
          refine (l00Max_z (l - 1) (L - 1) _ (by have := HLI.out; omega)).mono ?_; rintro e w' ⟨rfl, rfl⟩
          go_wp2
          go_roundw
          case rel => exact ⟨k + 1, l - 1, _, by omega, by go_num, rfl, rfl, HST.out.1, by rw [HX.out]; exact HO, HW7⟩
          case measure => simp [intOf]; omega
      | true =>
        rw [hx] at e0
        by_cases hk0 : k = 0
        · have h0 : ((k : Int) == 0) = true := by simp [hk0]
          have hup : upB s k = true := by unfold upB; rw [hx, show decide (0 < k) = false from by simp [hk0]]; rfl
          clear hx hk0
          have hu1 : u = true := by rw [HU.out, hup]; rfl
          rw [hu1] at HL2
          have hl2 : l2 = T := by rw [HL2.out]; simp
          rw [hl2] at HST hwl hl2T HPOS
          have c1 : (0 : Int) < (T : Int) := by omega
          have c2 := decide_eq_true c1
          have c3 : 0 < T := by omega
          have c4 := decide_eq_true c3
          have hyy : y = true := by rw [HPOS.out]; simp; omega
          rw [hyy] at HX
          clear hl2 HL2 HPOS hyy HU
          go_wp2_with (first | (at_builtin; refine wpList_append_own _ rfl _ _ 51 rfl w.heap.size 5 i0 (.int .u8 0) 1 1 Try.underlying51 hi hz0 hz1 hz2 rfl (by decide) _ _ _ rfl (HB.out.alloc _) ⟨wr.heap.size, 0, none⟩ 1 1 [.int .u8 ((lvU true).toNat : Int)] rfl rfl ?d1 ?d2 ?d3 ?d4 ?d5 ?_) | (go_at_call 50; first | ((with_reducible refine (level8 true _).mono ?_); rintro e w' ⟨rfl, rfl⟩) | ((with_reducible refine (level8b true ?_ _).mono ?_); (focus (simp [c1]; done)); rintro e w' ⟨rfl, rfl⟩)))
          case d1 => exact cell_one_at8 _ _ _ _ (by first | rfl | simp)
          case d2 => simp [Value.oneCell']
          case d3 => rw [HLN.out]; unfold maxLen; omega
          case d4 => rw [HLN.out]; omega
          case d5 => first | omega | (simp; omega)
          intro v' w7 hown' hgrow _
          have HO := Lib.hid (Buf.snoc (b := lvU true) hown')
          have HW7 := Lib.hid (Buf.below HBW.out HB.out _ hgrow)
          clear hown' hgrow
          go_wp2_with fail
          refine (l00Max_z (T - 1) ((T : Int) - 1) _ (by have := HLI.out; omega)).mono ?_; rintro e w' ⟨rfl, rfl⟩
          go_wp2
          go_roundw
          case rel => exact ⟨k + 1, T - 1, _, by omega, by go_num, rfl, rfl, HST.out.1, by rw [HX.out]; exact HO, HW7⟩
          case measure => simp [intOf]; omega
        · obtain ⟨j, hj⟩ : ∃ j, k - 1 = j := ⟨_, rfl⟩
          have h0 : ((k : Int) == 0) = false := by simp [hk0]
          have hwj : IntKind.i64.wrap ((k : Int) - 1) = (j : Int) := by rw [IntWalk.i64_in _ (by omega)]; omega
          have hjs : j < s.size := by omega
          have hjI : (k : Int) - 1 = (j : Int) := by omega
          have ewj := wave_at HWV.out j hjs
          cases hp : bit s j with
          | true =>
            have ej : ((s[j].toNat : Int) == 48) = false := by rw [ewj, hp]; rfl
            have hup : upB s k = false := by unfold upB; rw [hj, hp, hx]; simp; omega
            clear hx hp hj ewj
            have hu1 : u = false := by rw [HU.out, hup]; rfl
            rw [hu1] at HL2
            by_cases hl0 : 0 < l
            ·
              have hl2 : l2 = l := by rw [HL2.out]; simp
              rw [hl2] at HST hwl hl2T HPOS
              have hLI := HLI.out
              have hwL : IntKind.i64.wrap (L - 1) = L - 1 := IntWalk.i64_in _ (by omega)
              have c1 : (0 : Int) < L := by omega
              have c2 := decide_eq_true c1
              clear hLI
              have hyy : y = true := by rw [HPOS.out]; simp; omega
              rw [hyy] at HX
              clear hl2 HL2 HPOS hyy HU
              go_wp2_with (first | (at_builtin; refine wpList_append_own _ rfl _ _ 51 rfl w.heap.size 5 i0 (.int .u8 0) 1 1 Try.underlying51 hi hz0 hz1 hz2 rfl (by decide) _ _ _ rfl (HB.out.alloc _) ⟨wr.heap.size, 0, none⟩ 1 1 [.int .u8 ((lvU true).toNat : Int)] rfl rfl ?e1 ?e2 ?e3 ?e4 ?e5 ?_) | (go_at_call 50; first | ((with_reducible refine (level8 true _).mono ?_); rintro e w' ⟨rfl, rfl⟩) | ((with_reducible refine (level8b true ?_ _).mono ?_); (focus (simp [c1]; done)); rintro e w' ⟨rfl, rfl⟩)))
              case e1 => exact cell_one_at8 _ _ _ _ (by first | rfl | simp)
              case e2 => simp [Value.oneCell']
              case e3 => rw [HLN.out]; unfold maxLen; omega
              case e4 => rw [HLN.out]; omega
              case e5 => first | omega | (simp; omega)
              intro v' w7 hown' hgrow _
              have HO := Lib.hid (Buf.snoc (b := lvU true) hown')
              have HW7 := Lib.hid (Buf.below HBW.out HB.out _ hgrow)
              clear hown' hgrow
              go_wp2_with fail
              refine (l00Max_z (l - 1) (L - 1) _ (by have := HLI.out; omega)).mono ?_; rintro e w' ⟨rfl, rfl⟩
              go_wp2
              go_roundw
              case rel => exact ⟨k + 1, l - 1, _, by omega, by go_num, rfl, rfl, HST.out.1, by rw [HX.out]; exact HO, HW7⟩
              case measure => simp [intOf]; omega
            ·
              have hl2 : l2 = l := by rw [HL2.out]; simp
              rw [hl2] at HST hwl hl2T HPOS
              have hLI := HLI.out
              have hwL : IntKind.i64.wrap (L - 1) = L - 1 := IntWalk.i64_in _ (by omega)
              have c1 : ¬ (0 : Int) < L := by omega
              have c2 := decide_eq_false c1
              clear hLI
              have hyy : y = false := by rw [HPOS.out]; simp; omega
              rw [hyy] at HX
              clear hl2 HL2 HPOS hyy HU
              go_wp2_with (first | (at_builtin; refine wpList_append_own _ rfl _ _ 51 rfl w.heap.size 5 i0 (.int .u8 0) 1 1 Try.underlying51 hi hz0 hz1 hz2 rfl (by decide) _ _ _ rfl (HB.out.alloc _) ⟨wr.heap.size, 0, none⟩ 1 1 [.int .u8 ((lvU false).toNat : Int)] rfl rfl ?f1 ?f2 ?f3 ?f4 ?f5 ?_) | (go_at_call 50; first | ((with_reducible refine (level8 false _).mono ?_); rintro e w' ⟨rfl, rfl⟩) | ((with_reducible refine (level8b false ?_ _).mono ?_); (focus (simp [c1]; done)); rintro e w' ⟨rfl, rfl⟩)))
              case f1 => exact cell_one_at8 _ _ _ _ (by first | rfl | simp)
              case f2 => simp [Value.oneCell']
              case f3 => rw [HLN.out]; unfold maxLen; omega
              case f4 => rw [HLN.out]; omega
              case f5 => first | omega | (simp; omega)
              intro v' w7 hown' hgrow _
              have HO := Lib.hid (Buf.snoc (b := lvU false) hown')
              have HW7 := Lib.hid (Buf.below HBW.out HB.out _ hgrow)
              clear hown' hgrow
              go_wp2_with fail
              refine (l00Max_z (l - 1) (L - 1) _ (by have := HLI.out; omega)).mono ?_; rintro e w' ⟨rfl, rfl⟩
              go_wp2
              go_roundw
              case rel => exact ⟨k + 1, l - 1, _, by omega, by go_num, rfl, rfl, HST.out.1, by rw [HX.out]; exact HO, HW7⟩
              case measure => simp [intOf]; omega
          | false =>
            have ej : ((s[j].toNat : Int) == 48) = true := by rw [ewj, hp]; rfl
            have hup : upB s k = true := by unfold upB; rw [hj, hp, hx]; simp
            clear hx hp hj ewj
            have hu1 : u = true := by rw [HU.out, hup]; rfl
            rw [hu1] at HL2
            have hl2 : l2 = T := by rw [HL2.out]; simp
            rw [hl2] at HST hwl hl2T HPOS
            have c1 : (0 : Int) < (T : Int) := by omega
            have c2 := decide_eq_true c1
            have c3 : 0 < T := by omega
            have c4 := decide_eq_true c3
            have hyy : y = true := by rw [HPOS.out]; simp; omega
            rw [hyy] at HX
            clear hl2 HL2 HPOS hyy HU
            go_wp2_with (first | (at_builtin; refine wpList_append_own _ rfl _ _ 51 rfl w.heap.size 5 i0 (.int .u8 0) 1 1 Try.underlying51 hi hz0 hz1 hz2 rfl (by decide) _ _ _ rfl (HB.out.alloc _) ⟨wr.heap.size, 0, none⟩ 1 1 [.int .u8 ((lvU true).toNat : Int)] rfl rfl ?g1 ?g2 ?g3 ?g4 ?g5 ?_) | (go_at_call 50; first | ((with_reducible refine (level8 true _).mono ?_); rintro e w' ⟨rfl, rfl⟩) | ((with_reducible refine (level8b true ?_ _).mono ?_); (focus (simp [c1]; done)); rintro e w' ⟨rfl, rfl⟩)))
            case g1 => exact cell_one_at8 _ _ _ _ (by first | rfl | simp)
            case g2 => simp [Value.oneCell']
            case g3 => rw [HLN.out]; unfold maxLen; omega
            case g4 => rw [HLN.out]; omega
            case g5 => first | omega | (simp; omega)
            intro v' w7 hown' hgrow _
            have HO := Lib.hid (Buf.snoc (b := lvU true) hown')
            have HW7 := Lib.hid (Buf.below HBW.out HB.out _ hgrow)
            clear hown' hgrow
            go_wp2_with fail
            refine (l00Max_z (T - 1) ((T : Int) - 1) _ (by have := HLI.out; omega)).mono ?_; rintro e w' ⟨rfl, rfl⟩
            go_wp2
            go_roundw
            case rel => exact ⟨k + 1, T - 1, _, by omega, by go_num, rfl, rfl, HST.out.1, by rw [HX.out]; exact HO, HW7⟩
            case measure => simp [intOf]; omega
    · obtain rfl : k = s.size := by omega
      have hconv := run_buf_string _ _ _ _ HB.out
      go_wp2
      go_ret2
      exact ⟨rfl, HBW.out⟩

theorem one_both (s : ByteArray) (T : Int) (g : Int) (h_s : s.size ≤ maxLen) (h_T : (Lit.int .i64 T).wf = true) (h_g : (Lit.int .i64 g).wf = true) (l_s : (s.size : Int) ≤ 1048576) : ∃ (r0 : ByteArray) (r1 : Bool), (∀ w, Calls Try.prog 27 #[.string s, .int .i64 T, .int .i64 g] w fun e w' => e = .returned (.tuple #[.string r0, .bool r1]) ∧ Below w.heap.size w w') ∧ (∀ w, Calls Try.prog 28 #[.string s, .int .i64 T, .int .i64 g] w fun e w' => e = .returned (.tuple #[.string r0, .bool r1]) ∧ Below w.heap.size w w') := by
  by_cases h : canB s T = true ∧ (g = 0 ∨ g = 1)
  · obtain ⟨hc, hg⟩ := h
    obtain ⟨n, rfl⟩ := fraw T (canB_t hc).2
    rcases hg with rfl | rfl
    · exact ⟨_, _, fun w => specOne_0 s n w h_s hc, fun w => implOne_t s n 0 w h_s hc (.inl rfl)⟩
    · exact ⟨_, _, fun w => specOne_1 s n w h_s hc, fun w => implOne_t s n 1 w h_s hc (.inr rfl)⟩
  · exact ⟨_, _, fun w => specOne_f s T g w h_s h, fun w => implOne_f s T g w h_s h⟩
set_option maxHeartbeats 1000000 in
set_option maxRecDepth 100000 in
theorem walk_FnExactOneShot (s : ByteArray) (T : Int) (g : Int) (w : World) (h_s : s.size ≤ maxLen) (h_T : (Lit.int .i64 T).wf = true) (h_g : (Lit.int .i64 g).wf = true) :
    Calls Try.prog 9 #[.string s, .int .i64 T, .int .i64 g] w fun e w' => e = .returned (.bool true) ∧ Below w.heap.size w w' := by
  by_cases l_s : (s.size : Int) ≤ 1048576
  case neg =>
    go_enter Try.func9, Try.ntmps9
    go_wp2
    go_ret
    exact ⟨rfl, Below.refl _ _⟩
  obtain ⟨r0, r1, hS, hI⟩ := one_both s T g h_s h_T h_g l_s
  have HS := Lib.hid hS
  have HI := Lib.hid hI
  clear hS hI
  go_enter Try.func9, Try.ntmps9
  go_wp2_with fail
  refine (HS.out _).mono ?_; rintro e w1 ⟨rfl, b1⟩
  go_wp2_with fail
  refine (HI.out _).mono ?_; rintro e w2 ⟨rfl, b2⟩
  go_wp2
  go_ret
  exact ⟨rfl, b1.trans (b2.mono b1.size)⟩
end Go.Proofs.Ytfekdmnhlbjmaaa
