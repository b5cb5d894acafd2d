/- A wave without short gaps: the model's side. -/
import Derived.Test.YtkipgeecibimoaaDoorFillT
import Derived.Test.YtkipgeecibimoaaDoorCanF
import Derived.Test.YtkipgeecibimoaaDoorPulS
import Derived.Test.YtkipgeecibimoaaDoorDropS
import Derived.Lib.ConvBytes
import Derived.Laws.IdiomStrings
namespace Go.Proofs.YtkipgeecibimoaaDoor
open Go.RowKit
set_option linter.unusedVariables false
set_option linter.unusedSimpArgs false

/-- filled by the gaps of ps, and from u up to i -/
def midF (t : Int) (l : List UInt8) (n : Nat) (ps : List (Int × Int)) (u i : Nat) : List UInt8 := (List.range n).map (fun j : Nat => if hitS t ps (j : Int) || decide (u ≤ j ∧ j < i) then 49 else l.getD j 0)
theorem midF_len (t : Int) (l : List UInt8) (n : Nat) (ps : List (Int × Int)) (u i : Nat) : (midF t l n ps u i).length = n := by simp [midF]
theorem midF_start (t : Int) (l : List UInt8) (n : Nat) (ps : List (Int × Int)) (u : Nat) : midF t l n ps u u = fillP t l n ps := by
  unfold midF fillP
  apply List.map_congr_left
  intro j _
  have : decide (u ≤ j ∧ j < u) = false := decide_eq_false (by omega)
  rw [this, Bool.or_false]
theorem midF_step (t : Int) (l : List UInt8) (n : Nat) (ps : List (Int × Int)) (u i : Nat) (h : i < n) (hu : u ≤ i) : (midF t l n ps u i).set i 49 = midF t l n ps u (i + 1) := by
  apply List.ext_getElem
  · simp [midF]
  · intro j h1 h2
    simp only [midF, List.getElem_set, List.getElem_map, List.getElem_range]
    by_cases e : i = j
    · subst e
      simp [hu]
    · rw [if_neg e]
      have : decide (u ≤ j ∧ j < i) = decide (u ≤ j ∧ j < i + 1) := by rw [decide_eq_decide]; omega
      rw [this]
theorem midF_end (t : Int) (l : List UInt8) (n : Nat) (ps : List (Int × Int)) (u d : Nat) (h : (d : Int) - (u : Int) < t) : midF t l n ps u d = fillP t l n (ps ++ [((u : Int), (d : Int))]) := by
  unfold midF fillP
  apply List.map_congr_left
  intro j _
  rw [hitS_snoc]
  have : decide (u ≤ j ∧ j < d) = decide ((u : Int) ≤ (j : Int) ∧ (j : Int) < (d : Int) ∧ (d : Int) - (u : Int) < t) := by rw [decide_eq_decide]; omega
  rw [this]
theorem fillP_no (t : Int) (l : List UInt8) (n : Nat) (ps : List (Int × Int)) (u d : Int) (h : ¬ d - u < t) : fillP t l n (ps ++ [(u, d)]) = fillP t l n ps := by
  unfold fillP
  apply List.map_congr_left
  intro j _
  rw [hitS_snoc]
  have : decide (u ≤ (j : Int) ∧ (j : Int) < d ∧ d - u < t) = false := decide_eq_false (by omega)
  rw [this, Bool.or_false]
theorem fillP_none (t : Int) (s : ByteArray) : fillP t s.data.toList s.size [] = s.data.toList := by
  unfold fillP
  apply List.ext_getElem
  · simp
  · intro i i1 i2
    simp only [List.getElem_map, List.getElem_range, hitS, List.any_nil, Bool.false_eq_true, if_false]
    rw [List.getD_eq_getElem?_getD, List.getElem?_eq_getElem i2]; rfl
theorem gap_next (us es : List Int) (k : Nat) (hk : k + 1 < us.length) (he : es.length = us.length) : (es.zip us.tail).take (k + 1) = (es.zip us.tail).take k ++ [(es.getD k 0, us.getD (k + 1) 0)] := by
  have h1 : k < (es.zip us.tail).length := by rw [List.length_zip, List.length_tail]; omega
  rw [List.take_succ_eq_append_getElem h1]
  congr 1
  simp [List.getD_eq_getElem?_getD, List.getElem?_eq_getElem hk, List.getElem?_eq_getElem (show k < es.length by omega)]

/-- bytes in block g, whatever marks lie behind them -/
def ByA (w : World) (g : Nat) (l : List UInt8) : Prop := ∃ cur lo hi, w.heap[g]? = some (.cells cur 5 (lo, hi)) ∧ l.length ≤ lo ∧ ∀ k (hk : k < l.length), cur[k]? = some (.int .u8 ((l[k]).toNat : Int))
theorem ByA.cell {w : World} {g : Nat} {l : List UInt8} (h : ByA w g l) (k : Nat) (hk : k < l.length) : w.cell? ⟨g, k, none⟩ = some (.int .u8 ((l[k]).toNat : Int)) ∧ w.frozen? ⟨g, k, none⟩ = false := by
  obtain ⟨cur, lo, hi, h1, h2, h3⟩ := h
  refine ⟨(Lib.cell_of_heap h1 k).trans (h3 k hk), ?_⟩
  simp [World.frozen?, h1]; omega
theorem ByA.put {w : World} {g : Nat} {l : List UInt8} (h : ByA w g l) (j : Nat) (hj : j < l.length) (x : UInt8) : ByA (w.setCell ⟨g, j, none⟩ (.int .u8 (x.toNat : Int))) g (l.set j x) := by
  obtain ⟨cur, lo, hi, h1, h2, h3⟩ := h
  refine ⟨cur.setIfInBounds j (.int .u8 (x.toNat : Int)), lo, hi, by simp [World.setCell, Array.getElem?_modify, h1], by simpa using h2, fun k hk => ?_⟩
  have hk2 : k < l.length := by simpa using hk
  have hjc := (Array.getElem?_eq_some_iff.1 (h3 j hj)).1
  rw [Array.getElem?_setIfInBounds, List.getElem_set]
  by_cases e : j = k
  · subst e; simp [hjc]
  · rw [if_neg e, if_neg e]; exact h3 k hk2
theorem ByA.drewN {w : World} {g : Nat} {l : List UInt8} (h : ByA w g l) (n : Nat) : ByA (w.drewN n) g l := h
theorem ByA.back {w : World} {g cap n : Nat} {l : List UInt8} (h : ByA w g l) (hn : n = l.length) : (convert 25 9 (.slice (some ⟨g, 0, none⟩) n cap)).run Tryd.prog w = .ok (.string ⟨l.toArray⟩) w := by
  subst hn
  refine run_convert_bytes_back w _ _ _ ⟨g, 0, none⟩ cap l Tryd.underlying25 Tryd.underlying5 Tryd.underlying9 (fun j hj => ?_)
  rw [show (⟨g, 0, none⟩ : Addr).add j = ⟨g, j, none⟩ from by unfold Addr.add; split <;> simp_all]
  exact (h.cell j hj).1
theorem bytes_of (w : World) (s : ByteArray) : ∃ W cap, (convert 9 25 (.string s)).run Tryd.prog w = .ok (.slice (some ⟨w.heap.size, 0, none⟩) s.size cap) W ∧ ByA W w.heap.size s.data.toList ∧ Below w.heap.size w W := by
  refine ⟨Lib.bytesWorld w 5 s, _, Lib.run_convert_string_bytes w 9 25 5 s Tryd.underlying9 Tryd.underlying25 Tryd.underlying5, ⟨_, _, _, Lib.bytesWorld_at_new w _ s, ?_, fun k hk => ?_⟩, ?_⟩
  · simp [Lib.bytesCells]
  · have h := Lib.bytesWorld_cell w 5 s k (by rw [← size_toList]; exact hk)
    rw [Lib.cell_of_heap (Lib.bytesWorld_at_new w _ s)] at h
    rw [h, List.getD_eq_getElem?_getD, List.getElem?_eq_getElem hk]; rfl
  · exact ⟨by simp [Lib.bytesWorld, World.freeze, World.alloc, World.drew, -World.alloc_eq, -World.drew_eq], by simp [Lib.bytesWorld, World.freeze, World.alloc, World.drew, -World.alloc_eq, -World.drew_eq], by simp [Lib.bytesWorld, World.freeze, World.alloc, World.drew, -World.alloc_eq, -World.drew_eq], by rw [Lib.bytesWorld_size]; omega, fun k hk => Lib.bytesWorld_at_old w _ s k hk⟩

set_option maxHeartbeats 4000000 in
set_option maxRecDepth 100000 in
theorem specFill_t (s : ByteArray) (T : Nat) (w : World) (hs : s.size ≤ maxLen) (hc : canB s (T : Int) = true) :
    Calls Tryd.prog 6 #[.string s, .int .i64 (T : Int)] w fun e w' => e = .returned (.tuple #[.string ⟨(fillP (T : Int) s.data.toList s.size ((endsL (s.size : Int) (edgesL 49 s.data.toList s.size) (edgesL 48 s.data.toList s.size)).zip (edgesL 49 s.data.toList s.size).tail)).toArray⟩, .bool true]) ∧ Below w.heap.size w w' := by
  obtain ⟨hw, hT1, hT2⟩ := canB_t hc
  have hz := wave_le hw
  have hall : s.data.toList.all lvlB = true := by
    unfold waveB at hw; simp only [Bool.and_eq_true] at hw; exact hw.1
  have HF := Lib.hid (fun w => l09F_any s (T : Int) w hs)
  rw [hc] at HF
  have hturn : (edgesL 49 s.data.toList s.size).length = (edgesL 48 s.data.toList s.size).length ∨ (edgesL 49 s.data.toList s.size).length = (edgesL 48 s.data.toList s.size).length + 1 := (edges_turn s hall s.size (Nat.le_refl _)).elim (fun h => .inl h.2) (fun h => .inr h.2)
  have hu := edgesL_getD 49 s.data.toList s.size
  have hd := edgesL_getD 48 s.data.toList s.size
  have hes := endsL_len (s.size : Int) (edgesL 49 s.data.toList s.size) (edgesL 48 s.data.toList s.size) hturn
  have heg := fun i hi => endsL_getD (s.size : Int) (edgesL 49 s.data.toList s.size) (edgesL 48 s.data.toList s.size) i hi hturn
  have hlen1 := edgesL_len 49 s.data.toList s.size
  have HP := Lib.hid (fun w => specPul s w hz)
  have hbd : ∀ i, i < (edgesL 49 s.data.toList s.size).length → ∃ u d : Nat, (edgesL 49 s.data.toList s.size).getD i 0 = (u : Int) ∧ (endsL (s.size : Int) (edgesL 49 s.data.toList s.size) (edgesL 48 s.data.toList s.size)).getD i 0 = (d : Int) ∧ u < s.size ∧ d ≤ s.size := by
    intro i hi
    have h1 := hu i hi
    refine ⟨((edgesL 49 s.data.toList s.size).getD i 0).toNat, ((endsL (s.size : Int) (edgesL 49 s.data.toList s.size) (edgesL 48 s.data.toList s.size)).getD i 0).toNat, by omega, ?_, by omega, ?_⟩
    · rw [heg i hi]
      split
      · have := hd i (by assumption); omega
      · omega
    · rw [heg i hi]
      split
      · have := hd i (by assumption); omega
      · omega
  obtain ⟨us, hus⟩ : ∃ us, edgesL 49 s.data.toList s.size = us := ⟨_, rfl⟩
  rw [hus] at HP hbd hes hlen1 ⊢
  obtain ⟨es, hes2⟩ : ∃ es, endsL (s.size : Int) us (edgesL 48 s.data.toList s.size) = es := ⟨_, rfl⟩
  rw [hes2] at HP hbd hes ⊢
  have HBD := Lib.hid hbd
  have HES := Lib.hid hes
  have HNO := Lib.hid (fillP_none (T : Int) s)
  obtain ⟨l, hl⟩ : ∃ l, s.data.toList = l := ⟨_, rfl⟩
  rw [hl] at HNO ⊢
  have HL := Lib.hid hl
  obtain ⟨i0, hi, hz0, hz1, hz2⟩ := info_parts info_u8
  clear hw hc hall hturn hu hd heg hus hes2 hbd hes hl
  go_enter Tryd.func6, Tryd.ntmps6
  go_wp2_with fail
  refine (HF.out _).mono ?_; rintro e w1 ⟨rfl, rfl⟩
  go_wp2_with fail
  refine (HP.out _).mono ?_; rintro e w2 ⟨v1, v2, rfl, i1, i2, b2⟩
  have HI1 := Lib.hid i1
  have HI2 := Lib.hid i2
  have HB2 := Lib.hid b2
  have hsz2 : w.heap.size ≤ w2.heap.size := b2.size
  obtain ⟨a1, cap1, rfl, -, -⟩ := i1.form
  obtain ⟨a2, cap2, rfl, -, -⟩ := i2.form
  clear i1 i2 b2
  obtain ⟨w3, cap3, hcv, hby, hbl⟩ := bytes_of w2 s
  rw [HL.out] at hby
  have HB3 := Lib.hid hbl
  have HU3 : Hid (ByA w3 w2.heap.size (fillP (T : Int) l s.size ((es.zip us.tail).take 0))) := by
    show ByA _ _ _
    rw [List.take_zero, HNO.out]; exact hby
  have hg0 : w2.heap.size < w3.heap.size := by
    obtain ⟨cur, lo, hi, h1, -⟩ := hby
    exact (Array.getElem?_eq_some_iff.1 h1).1
  clear hby hbl
  go_wp2
  go_loopw [9] (fun i wr => ∃ k : Nat, 1 ≤ k ∧ k ≤ us.length + 1 ∧ i = .int .i64 (k : Int) ∧ Hid (ByA wr w2.heap.size (fillP (T : Int) l s.size ((es.zip us.tail).take (k - 1)))) ∧ Hid (Below w2.heap.size w2 wr)) (fun i _ => us.length + 1 - (intOf i).toNat)
  case atStart => exact ⟨1, Nat.le_refl _, by omega, rfl, HU3, HB3⟩
  case round =>
    obtain ⟨k, hk1, hk2, rfl, HU5, HB5⟩ := hrel
    clear hcv
    by_cases hlt5 : k < us.length
    · obtain ⟨j, hj⟩ : ∃ j, k = j + 1 := ⟨k - 1, by omega⟩
      have hje : j < es.length := by rw [HES.out]; omega
      obtain ⟨d, -, ed, -, hd, -⟩ := HBD.out k hlt5
      obtain ⟨-, u, -, eu, -, hu⟩ := HBD.out j (by omega)
      have hTN := gap_next us es j (by omega) HES.out
      rw [← hj, ed, eu] at hTN
      have HTN := Lib.hid hTN
      have wk : IntKind.i64.wrap ((k : Int) - 1) = (j : Int) := by rw [show (k : Int) - 1 = (j : Int) by omega]; exact IntWalk.i64_in _ (by omega)
      have hkm : k - 1 = j := by omega
      rw [hkm] at HU5
      obtain ⟨g1, rfl, hB1, hg1, c1⟩ := HI1.out.at k hlt5
      obtain ⟨g2, rfl, hB2, hg2, c2⟩ := HI2.out.at j hje
      rw [ed] at c1
      rw [eu] at c2
      have HC : Hid (∀ W, Below w2.heap.size w2 W → W.cell? ⟨g1, k, none⟩ = some (.int .i64 (d : Int)) ∧ W.cell? ⟨g2, j, none⟩ = some (.int .i64 (u : Int))) := fun W hW => ⟨(hW.cell (p := ⟨g1, k, none⟩) hg1).trans c1, (hW.cell (p := ⟨g2, j, none⟩) hg2).trans c2⟩
      have hwd : IntKind.i64.wrap ((d : Int) - (u : Int)) = (d : Int) - (u : Int) := IntWalk.i64_in _ (by omega)
      have HJ := Lib.hid hj
      clear c1 c2 eu ed hTN hj hkm
      obtain ⟨c1, c2⟩ := HC.out _ HB5.out
      obtain ⟨ps, hps⟩ : ∃ ps, (es.zip us.tail).take j = ps := ⟨_, rfl⟩
      rw [hps] at HU5 HTN
      obtain ⟨wo, hwo⟩ : ∃ wo, wr = wo := ⟨_, rfl⟩
      rw [hwo] at HU5 HB5 c1 c2 ⊢
      clear hwo hps
      go_wp2
      go_loopw [10] (fun iv wr => ∃ i : Nat, u ≤ i ∧ i ≤ s.size ∧ iv = .int .i64 (i : Int) ∧ Hid (i = u ∨ ((d : Int) - (u : Int) < (T : Int) ∧ i ≤ d)) ∧ Hid (ByA wr w2.heap.size (midF (T : Int) l s.size ps u i)) ∧ Hid (Below w2.heap.size w2 wr)) (fun i _ => d - (intOf i).toNat)
      case atStart => exact ⟨u, Nat.le_refl _, by omega, rfl, Lib.hid (.inl rfl), by rw [midF_start]; exact HU5, HB5⟩
      case round =>
        obtain ⟨i, hi1, hi2, rfl, HOR, HU6, HB6⟩ := hrel
        clear c1 c2
        obtain ⟨c1, c2⟩ := HC.out _ HB6.out
        have hFIN : k + 1 - 1 = j + 1 := by have := HJ.out; omega
        have HFN := Lib.hid hFIN
        clear hFIN
        by_cases h1 : i < d
        · by_cases h2 : (d : Int) - (u : Int) < (T : Int)
          · have hml := midF_len (T : Int) l s.size ps u i
            obtain ⟨hcell, hfr⟩ := HU6.out.cell i (by omega)
            obtain ⟨xx, hcx⟩ : ∃ xx, wr.cell? ⟨w2.heap.size, i, none⟩ = some (.int .u8 xx) := ⟨_, hcell⟩
            have HPUT := Lib.hid (HU6.out.put i (by omega) 49)
            have HM := Lib.hid (midF_step (T : Int) l s.size ps u i (by omega) hi1)
            have hltI : (i : Int) < (d : Int) := by omega
            have hdI : decide ((i : Int) < (d : Int)) = true := decide_eq_true hltI
            have hdT : decide ((d : Int) - (u : Int) < (T : Int)) = true := decide_eq_true h2
            have hin : i < s.size := by omega
            clear hcell hml
            go_wp2
            go_quiet (fail)
            go_wp2
            go_roundw
            case rel => exact ⟨i + 1, by omega, by omega, by go_num, Lib.hid (.inr ⟨h2, h1⟩), by have h := HPUT.out; rw [HM.out] at h; exact Lib.hid h, Lib.hid ((below_dN _ HB6.out).setCell (by first | exact Nat.le_refl _ | (simp)) _)⟩
            case measure => simp [intOf]; omega
          · have hltI : (i : Int) < (d : Int) := by omega
            have hdI : decide ((i : Int) < (d : Int)) = true := decide_eq_true hltI
            have hdT : decide ((d : Int) - (u : Int) < (T : Int)) = false := decide_eq_false h2
            have HFIN : Hid (ByA wr w2.heap.size (fillP (T : Int) l s.size ((es.zip us.tail).take (k + 1 - 1)))) := by
              have h := HU6.out
              rcases HOR.out with rfl | ⟨h9, _⟩
              · rw [midF_start] at h
                rw [HFN.out, show j + 1 = k from HJ.out.symm, HTN.out, fillP_no _ _ _ _ _ _ h2]; exact Lib.hid h
              · exact absurd h9 h2
            go_wp2
            go_quiet (fail)
            go_wp2
            go_roundw
            case rel => exact ⟨k + 1, by omega, by omega, by go_num, HFIN, Lib.hid (below_dN _ HB6.out)⟩
            case measure => simp [intOf]; omega
        · have hdI : decide ((i : Int) < (d : Int)) = false := decide_eq_false (by omega)
          have hnI : ¬ (i : Int) < (d : Int) := by omega
          have HFIN : Hid (ByA wr w2.heap.size (fillP (T : Int) l s.size ((es.zip us.tail).take (k + 1 - 1)))) := by
            have h := HU6.out
            rw [HFN.out, show j + 1 = k from HJ.out.symm, HTN.out]
            by_cases h2 : (d : Int) - (u : Int) < (T : Int)
            · by_cases h3 : i ≤ d
              · obtain rfl : i = d := by omega
                rw [midF_end _ _ _ _ _ _ h2] at h
                exact Lib.hid h
              · rcases HOR.out with rfl | ⟨_, h9⟩
                · rw [midF_start] at h
                  have hno : fillP (T : Int) l s.size (ps ++ [((i : Int), (d : Int))]) = fillP (T : Int) l s.size ps := by
                    unfold fillP
                    apply List.map_congr_left
                    intro jj _
                    rw [hitS_snoc]
                    have : decide ((i : Int) ≤ (jj : Int) ∧ (jj : Int) < (d : Int) ∧ (d : Int) - (i : Int) < (T : Int)) = false := decide_eq_false (by omega)
                    rw [this, Bool.or_false]
                  rw [hno]; exact Lib.hid h
                · omega
            · obtain rfl : i = u := by
                rcases HOR.out with h9 | ⟨h9, _⟩
                · exact h9
                · exact absurd h9 h2
              rw [midF_start] at h
              rw [fillP_no _ _ _ _ _ _ h2]; exact Lib.hid h
          go_wp2
          go_quiet (fail)
          go_wp2
          go_roundw
          case rel => exact ⟨k + 1, by omega, by omega, by go_num, HFIN, Lib.hid (below_dN _ HB6.out)⟩
          case measure => simp [intOf]; omega
    · have hlen : (fillP (T : Int) l s.size ((es.zip us.tail).take (k - 1))).length = s.size := by simp [fillP]
      have hconv := HU5.out.back (cap := cap3) hlen.symm
      rw [show (es.zip us.tail).take (k - 1) = es.zip us.tail from List.take_of_length_le (by rw [List.length_zip, List.length_tail]; omega)] at hconv
      have HR := Lib.hid (HB2.out.trans (HB5.out.mono hsz2))
      clear hlen
      go_wp2
      go_ret2
      exact ⟨rfl, HR.out⟩
theorem specFill_f (s : ByteArray) (T : Int) (w : World) (hs : s.size ≤ maxLen) (hc : canB s T = false) :
    Calls Tryd.prog 6 #[.string s, .int .i64 T] w fun e w' => e = .returned (.tuple #[.string ⟨#[]⟩, .bool false]) ∧ Below w.heap.size w w' := by
  have HF := Lib.hid (fun w => l09F_any s T w hs)
  rw [hc] at HF
  clear hc
  go_enter Tryd.func6, Tryd.ntmps6
  go_wp2_with fail
  refine (HF.out _).mono ?_; rintro e w1 ⟨rfl, rfl⟩
  go_wp2
  go_ret2
  exact ⟨rfl, Below.refl _ _⟩
end Go.Proofs.YtkipgeecibimoaaDoor
