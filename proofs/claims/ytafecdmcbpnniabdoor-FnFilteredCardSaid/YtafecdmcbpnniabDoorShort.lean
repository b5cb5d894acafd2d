/- The ticks at which pulses begin that are too short: both sides. -/
import Derived.Test.YtafecdmcbpnniabDoorPulS
namespace Go.Proofs.YtafecdmcbpnniabDoor
open Go.RowKit Go.Shelf
set_option linter.unusedVariables false
set_option linter.unusedSimpArgs false

theorem PulR.at {w : World} {B n cap : Nat} {a : Option Addr} {N : Int} {us ds : List Int} (h : PulR w B (.slice a n cap) N us ds) (k : Nat) (hk : k < us.length) :
    ∃ g, a = some ⟨g, 0, none⟩ ∧ B ≤ g ∧ g < w.heap.size ∧ (w.cell? ⟨g, k * 3, none⟩ = some (.int .i64 (us.getD k 0)) ∧ w.cell? ⟨g, k * 3 + 1, none⟩ = some (.int .i64 (if k < ds.length then ds.getD k 0 else N)) ∧ w.cell? ⟨g, k * 3 + 2, none⟩ = some (.bool (decide (ds.length ≤ k)))) := by
  unfold PulR at h
  rcases h.2 with ⟨h0, h1⟩ | ⟨g, cap', cur, hv, hg, hh, hx1, hx2, hx3, hx4⟩
  · omega
  · simp only [Value.slice.injEq] at hv
    obtain ⟨rfl, rfl, rfl⟩ := hv
    obtain ⟨c0, c1, c2⟩ := pulV_get N us ds k hk
    refine ⟨g, rfl, hg, (Array.getElem?_eq_some_iff.1 hh).1, ?_, ?_, ?_⟩
    · rw [World.ownsRow.cellAt h (k * 3) (by omega)]; exact c0
    · rw [World.ownsRow.cellAt h (k * 3 + 1) (by omega)]; exact c1
    · rw [World.ownsRow.cellAt h (k * 3 + 2) (by omega)]; exact c2
theorem PulR.keep {w w' : World} {B : Nat} {v : Value} {n : Int} {us ds : List Int} (h : PulR w B v n us ds) {N : Nat} (hb : Below N w w') (hN : w.heap.size ≤ N) : PulR w' B v n us ds := by
  obtain ⟨h1, ⟨rfl, hn⟩ | ⟨g, cap, cur, rfl, hg, hh, hc, hm, hs, ht⟩⟩ := h
  · exact ⟨h1, .inl ⟨rfl, hn⟩⟩
  · exact ⟨h1, .inr ⟨g, cap, cur, rfl, hg, (hb.block g (by have := (Array.getElem?_eq_some_iff.1 hh).1; omega)).trans hh, hc, hm, hs, ht⟩⟩
theorem PulR.form {w : World} {B : Nat} {v : Value} {n : Int} {us ds : List Int} (h : PulR w B v n us ds) : ∃ a cap, v = .slice a us.length cap := by
  obtain ⟨h1, ⟨rfl, hn⟩ | ⟨g, cap, cur, rfl, hg, hh, hc, hm, hs, ht⟩⟩ := h
  · exact ⟨none, 0, by rw [hn]⟩
  · exact ⟨_, cap, rfl⟩
theorem ints_drewN {w : World} {B : Nat} {v : Value} {l : List Int} (n : Nat) (h : Ints w B v l) : Ints (w.drewN n) B v l := h
theorem below_drewN {B : Nat} {w w' : World} (n : Nat) (h : Below B w w') : Below B w (w'.drewN n) := ⟨h.os, h.tape, h.output, h.size, h.block⟩
theorem cell_one_at (W : World) (x : Value) (t : TypeId) (q : Nat) (hq : q = W.heap.size) : ∀ j u, [x][j]? = some u → (W.alloc (.cells #[x] t)).cell? ((⟨q, 0, none⟩ : Addr).add j) = some u := by subst hq; exact cell_one_new _ _ _
theorem wave_all {s : ByteArray} (hw : waveB s.data.toList = true) : s.data.toList.all lvlB = true := by
  unfold waveB at hw; simp only [Bool.and_eq_true] at hw; exact hw.1

set_option maxHeartbeats 4000000 in
set_option maxRecDepth 100000 in
theorem implSh_t (c : Int) (s : ByteArray) (w : World) (hs : s.size ≤ 400) (hw : waveB s.data.toList = true) (hc1 : 1 ≤ c) (hc2 : c ≤ 400) :
    Calls Tryd.prog 11 #[.string s, .int .i64 c] w fun e w' => ShoR w (shL c (edgesL 49 s.data.toList s.size) (edgesL 48 s.data.toList s.size) (edgesL 49 s.data.toList s.size).length) true e w' := by
  have HWB := Lib.hid hw
  have hall := wave_all hw
  obtain ⟨i0, hi, hz0, hz1, hz2⟩ := info_parts info_i64
  have HF := Lib.hid (fun w => callsIn_wide.1 (pulsesIn_in 3 (Nat.le_refl _) s w hs hall))
  have len1 := edgesL_len 49 s.data.toList s.size
  have len2 := edgesL_len 48 s.data.toList s.size
  have hbal : (edgesL 49 s.data.toList s.size).length = (edgesL 48 s.data.toList s.size).length ∨ (edgesL 49 s.data.toList s.size).length = (edgesL 48 s.data.toList s.size).length + 1 := by
    rcases edges_turn s hall s.size (Nat.le_refl _) with h | h
    · exact .inl h.2
    · exact .inr h.2
  have HUB := Lib.hid (fun k h => edgesL_getD 49 s.data.toList s.size k h)
  have HDB := Lib.hid (fun k h => edgesL_getD 48 s.data.toList s.size k h)
  obtain ⟨us, hus⟩ : ∃ us, edgesL 49 s.data.toList s.size = us := ⟨_, rfl⟩
  obtain ⟨ds, hds⟩ : ∃ us, edgesL 48 s.data.toList s.size = us := ⟨_, rfl⟩
  rw [hus] at HF HUB len1 hbal ⊢
  rw [hds] at HF HDB len2 hbal ⊢
  clear hus hds
  clear hw hall
  go_enter Tryd.func11, Tryd.ntmps11
  go_wp2_with fail
  refine (implIsWave s _ (by unfold maxLen; omega)).mono ?_
  rw [HWB.out]
  rintro e w1 ⟨rfl, b1⟩
  have HB1 := Lib.hid b1
  have hz1s := b1.size
  clear b1
  go_wp2_with fail
  refine (within_i64_t _ _ _ _ (by omega) (by omega)).mono ?_; rintro e w' ⟨rfl, rfl⟩
  go_wp2_with fail
  refine (HF.out _).mono ?_; rintro e w2 ⟨v1, rfl, i1, b2⟩
  have HI1 := Lib.hid i1
  have HB2 := Lib.hid (HB1.out.trans (b2.mono hz1s))
  have hz2s := HB2.out.size
  obtain ⟨a1, cap1, rfl⟩ := i1.form
  clear i1 b2
  go_wp2
  go_loopw [6, 8, 20] (fun v _ i wr => ∃ k : Nat, k ≤ us.length ∧ i = .int .i64 k ∧ Hid (Ints wr w2.heap.size v (shL c us ds k)) ∧ Hid (Below w2.heap.size w2 wr)) (fun _ _ i _ => us.length - (intOf i).toNat)
  case atStart => exact ⟨0, Nat.zero_le _, rfl, Lib.hid (Ints.nil _ _), Lib.hid (Below.refl _ _)⟩
  case round =>
    obtain ⟨k, hk, rfl, HBU, HBW⟩ := hrel
    by_cases hlt : k < us.length
    · have hltI : (k : Int) < (us.length : Int) := by omega
      have hlen := shL_len c us ds k
      have hszr := HBW.out.size
      obtain ⟨hu1, hu2⟩ := HUB.out k hlt
      obtain ⟨u, hu⟩ : ∃ u, us.getD k 0 = u := ⟨_, rfl⟩
      have HT : Hid (shL c us ds (k + 1) = if k < ds.length ∧ ds.getD k 0 - us.getD k 0 < c then shL c us ds k ++ [us.getD k 0] else shL c us ds k) := rfl
      rw [hu] at HT hu1 hu2
      obtain ⟨g1, rfl, hg1, hg1s, cu, cd, co⟩ := (HI1.out.keep HBW.out (Nat.le_refl _)).at k hlt
      rw [hu] at cu
      by_cases hd : k < ds.length
      · rw [if_pos hd] at cd
        rw [decide_eq_false (by omega)] at co
        obtain ⟨hd1, hd2⟩ := HDB.out k hd
        obtain ⟨d, hde⟩ : ∃ d, ds.getD k 0 = d := ⟨_, rfl⟩
        rw [hde] at cd hd1 hd2 HT
        have hsub : IntKind.i64.wrap (d - u) = d - u := by rw [IntWalk.i64_in _ (by omega)]
        obtain ⟨wq, hwq⟩ : ∃ wq, wr.alloc (.cells #[.int .i64 u, .int .i64 d, .bool false] 53) = wq := ⟨_, rfl⟩
        by_cases hcd : d - u < c
        · have HS : Hid (shL c us ds (k + 1) = shL c us ds k ++ [u]) := by show _ = _; rw [HT.out, if_pos ⟨hd, hcd⟩]
          clear HT hu hde hd hwq
          have HBU := Lib.hid (World.ownsRow.alloc HBU.out (.cells #[.int .i64 u, .int .i64 d, .bool false] 53))
          have HBW := Lib.hid (HBW.out.alloc hszr (.cells #[.int .i64 u, .int .i64 d, .bool false] 53))
          go_wp2_with (at_builtin; refine wpList_append_own _ rfl _ _ 28 rfl w2.heap.size 2 i0 (.int .i64 0) 1 8 Tryd.underlying28 hi hz0 hz1 hz2 rfl (by decide) _ _ _ rfl (HBU.out.alloc _) ⟨wr.heap.size + 1, 0, none⟩ 1 1 [.int .i64 u] rfl rfl ?c1 ?c2 ?c3 ?c4 ?c5 ?_)
          case c1 => exact cell_one_at _ _ _ _ (by simp)
          case c2 => simp [Value.oneCell']
          case c3 => unfold maxLen; omega
          case c4 => omega
          case c5 => first | omega | (simp; omega)
          intro v' w7 hown' hgrow _
          have HO := Lib.hid (Ints.snoc hown')
          have HW7 := Lib.hid (ints_below2 HBW.out (by omega) HBU.out _ hgrow)
          clear hown' hgrow
          go_wp2
          go_roundw
          case rel => exact ⟨k + 1, by omega, by go_num, by rw [HS.out]; exact HO.out, HW7⟩
          case measure => simp [intOf]; omega
        · have HS : Hid (shL c us ds (k + 1) = shL c us ds k) := by show _ = _; rw [HT.out, if_neg (fun h => hcd h.2)]
          clear HT hu hde hd hwq
          go_wp2
          go_roundw
          case rel => exact ⟨k + 1, by omega, by go_num, by rw [HS.out]; exact World.ownsRow.alloc HBU.out _, Lib.hid (HBW.out.alloc hszr _)⟩
          case measure => simp [intOf]; omega
      · rw [if_neg hd] at cd
        rw [decide_eq_true (by omega)] at co
        have HS : Hid (shL c us ds (k + 1) = shL c us ds k) := by show _ = _; rw [HT.out, if_neg (fun h => hd h.1)]
        clear HT hu hd
        go_wp2
        go_roundw
        case rel => exact ⟨k + 1, by omega, by go_num, by rw [HS.out]; exact World.ownsRow.alloc HBU.out _, Lib.hid (HBW.out.alloc hszr _)⟩
        case measure => simp [intOf]; omega
    · obtain rfl : k = us.length := by omega
      go_wp2
      go_ret2
      exact ⟨_, rfl, HBU.out.weak hz2s, HB2.out.trans (HBW.out.mono hz2s)⟩
end Go.Proofs.YtafecdmcbpnniabDoor
