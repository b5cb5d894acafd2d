/- A wave without short pulses: the model's side. -/
import Derived.Test.YtkipgeecibimoaaDropM2
import Derived.Test.YtkipgeecibimoaaCanF
import Derived.Test.YtkipgeecibimoaaPulS
import Derived.Test.YtkipgeecibimoaaBytes
import Derived.Laws.MakeOwn
namespace Go.Proofs.Ytkipgeecibimoaa
open Go.RowKit
set_option linter.unusedVariables false
set_option linter.unusedSimpArgs false

theorem Buf.form {w : World} {B : Nat} {v : Value} {l : List UInt8} (h : Buf w B v l) : ∃ a cap, v = .slice a l.length cap ∧ l.length ≤ maxLen ∧
    ∀ k (hk : k < l.length), ∃ g, a = some ⟨g, 0, none⟩ ∧ B ≤ g ∧ g < w.heap.size ∧ w.cell? ⟨g, k, none⟩ = some (.int .u8 ((l[k]).toNat : Int)) ∧ w.frozen? ⟨g, k, none⟩ = false := by
  have h' := h
  rcases h with ⟨_, ⟨rfl, hn⟩ | ⟨g, cap, cur, rfl, hg, hh, hc, hm, hs, ht⟩⟩
  · exact ⟨none, 0, by rw [hn], by rw [hn]; exact Nat.zero_le _, fun k hk => by omega⟩
  · refine ⟨_, cap, rfl, Nat.le_trans hc hm, fun k hk => ⟨g, rfl, hg, (Array.getElem?_eq_some_iff.1 hh).1, ?_, ?_⟩⟩
    · rw [World.ownsRow.cellAt h' k (by omega)]; simp [byCells, List.getElem?_eq_getElem hk]
    · exact World.ownsRow.frozenAt h' k
theorem Buf.put {w : World} {B g cap n : Nat} {l : List UInt8} (h : Buf w B (.slice (some ⟨g, 0, none⟩) n cap) l) (j : Nat) (x : UInt8) : Buf (w.setCell ⟨g, j, none⟩ (.int .u8 (x.toNat : Int))) B (.slice (some ⟨g, 0, none⟩) n cap) (l.set j x) := by
  have hn : n = l.length := by
    obtain ⟨a, c, he, _⟩ := h.form
    simp at he; exact he.2.1
  subst hn
  have := (World.ownsRow.stored h j (.int .u8 (x.toNat : Int))).1
  unfold Buf byCells at *
  rw [List.length_set, List.map_set]
  exact this
/-- a byte's place in a slice of bytes of the call's own -/
theorem Buf.at {w : World} {B n cap : Nat} {a : Option Addr} {l : List UInt8} (h : Buf w B (.slice a n cap) l) (k : Nat) (hk : k < l.length) :
    ∃ g, a = some ⟨g, 0, none⟩ ∧ B ≤ g ∧ (∃ x, w.cell? ⟨g, k, none⟩ = some (.int .u8 x)) ∧ w.frozen? ⟨g, k, none⟩ = false ∧ n = l.length ∧ ∀ x : UInt8, Buf (w.setCell ⟨g, k, none⟩ (.int .u8 (x.toNat : Int))) B (.slice a n cap) (l.set k x) := by
  obtain ⟨a', cap', hv, _, kk⟩ := h.form
  simp only [Value.slice.injEq] at hv
  obtain ⟨g, hg, hBg, hgs, hcell, hfr⟩ := kk k hk
  obtain ⟨rfl, rfl, rfl⟩ := hv
  subst hg
  exact ⟨g, rfl, hBg, ⟨_, hcell⟩, hfr, rfl, fun x => h.put k x⟩
theorem below_dN {B : Nat} {w w' : World} (n : Nat) (h : Below B w w') : Below B w (w'.drewN n) := ⟨h.os, h.tape, h.output, h.size, h.block⟩
theorem zerosB (n : Nat) : (Go.madeCells #[Value.int .u8 0] n).toList = byCells (List.replicate n 0) := by
  apply List.ext_getElem
  · simp [Go.madeCells, byCells]
  · intro i h1 h2; simp [Go.madeCells, Nat.mod_one, byCells]
theorem fill_step (c d : UInt8) (n k : Nat) (h : k < n) : (List.replicate k c ++ List.replicate (n - k) d).set k c = List.replicate (k + 1) c ++ List.replicate (n - (k + 1)) d := by
  rw [List.set_append, if_neg (by simp)]
  have e : n - k = (n - (k + 1)) + 1 := by omega
  rw [List.length_replicate, Nat.sub_self, e, List.replicate_succ, List.set_cons_zero, List.replicate_succ', List.append_assoc]
  rfl
/-- painted by the pulses of ps, and from u up to i -/
def midP (t : Int) (n : Nat) (ps : List (Int × Int)) (u i : Nat) : List UInt8 := (List.range n).map (fun j : Nat => if hitP t ps (j : Int) || decide (u ≤ j ∧ j < i) then 49 else 48)
theorem midP_len (t : Int) (n : Nat) (ps : List (Int × Int)) (u i : Nat) : (midP t n ps u i).length = n := by simp [midP]
theorem midP_start (t : Int) (n : Nat) (ps : List (Int × Int)) (u : Nat) : midP t n ps u u = paintP t n ps := by
  unfold midP paintP
  apply List.map_congr_left
  intro j _
  have : decide (u ≤ j ∧ j < u) = false := decide_eq_false (by omega)
  rw [this, Bool.or_false]
theorem midP_step (t : Int) (n : Nat) (ps : List (Int × Int)) (u i : Nat) (h : i < n) (hu : u ≤ i) : (midP t n ps u i).set i 49 = midP t n ps u (i + 1) := by
  apply List.ext_getElem
  · simp [midP]
  · intro j h1 h2
    simp only [midP, List.getElem_set, List.getElem_map, List.getElem_range]
    by_cases e : i = j
    · subst e
      simp [hu]
    · rw [if_neg e]
      have : decide (u ≤ j ∧ j < i) = decide (u ≤ j ∧ j < i + 1) := by rw [decide_eq_decide]; omega
      rw [this]
theorem midP_end (t : Int) (n : Nat) (ps : List (Int × Int)) (u d : Nat) (h : t ≤ (d : Int) - (u : Int)) : midP t n ps u d = paintP t n (ps ++ [((u : Int), (d : Int))]) := by
  unfold midP paintP
  apply List.map_congr_left
  intro j _
  rw [hitP_snoc]
  have : decide (u ≤ j ∧ j < d) = decide ((u : Int) ≤ (j : Int) ∧ (j : Int) < (d : Int) ∧ t ≤ (d : Int) - (u : Int)) := by rw [decide_eq_decide]; omega
  rw [this]
theorem paintP_no (t : Int) (n : Nat) (ps : List (Int × Int)) (u d : Int) (h : ¬ t ≤ d - u) : paintP t n (ps ++ [(u, d)]) = paintP t n ps := by
  unfold paintP
  apply List.map_congr_left
  intro j _
  rw [hitP_snoc]
  have : decide (u ≤ (j : Int) ∧ (j : Int) < d ∧ t ≤ d - u) = false := by simp; omega
  rw [this, Bool.or_false]
theorem take_next (us es : List Int) (k : Nat) (hk : k < us.length) (he : es.length = us.length) : (us.zip es).take (k + 1) = (us.zip es).take k ++ [(us.getD k 0, es.getD k 0)] := by
  rw [List.take_succ_eq_append_getElem (by simp; omega)]
  congr 1
  simp [List.getD_eq_getElem?_getD, List.getElem?_eq_getElem hk, List.getElem?_eq_getElem (show k < es.length by omega)]

set_option maxHeartbeats 4000000 in
set_option maxRecDepth 100000 in
theorem specDrop_t (s : ByteArray) (T : Nat) (w : World) (hs : s.size ≤ maxLen) (hc : canB s (T : Int) = true) :
    Calls Try.prog 12 #[.string s, .int .i64 (T : Int)] w fun e w' => e = .returned (.tuple #[.string ⟨(partsT 49 (T : Int) (runsL s)).toArray⟩, .bool true]) ∧ Below w.heap.size w w' := by
  obtain ⟨hw, hT1, hT2⟩ := canB_t hc
  have hz := wave_le hw
  have hall : s.data.toList.all lvlB = true := by
    unfold waveB at hw; simp only [Bool.and_eq_true] at hw; exact hw.1
  have HF := Lib.hid (fun w => l09F_any s (T : Int) w hs)
  rw [hc] at HF
  have hturn : (edgesL 49 s.data.toList s.size).length = (edgesL 48 s.data.toList s.size).length ∨ (edgesL 49 s.data.toList s.size).length = (edgesL 48 s.data.toList s.size).length + 1 := (edges_turn s hall s.size (Nat.le_refl _)).elim (fun h => .inl h.2) (fun h => .inr h.2)
  have hend := drop_end s (T : Int) s.size rfl hall _ _ rfl rfl
  have hu := edgesL_getD 49 s.data.toList s.size
  have hd := edgesL_getD 48 s.data.toList s.size
  have hes := endsL_len (s.size : Int) (edgesL 49 s.data.toList s.size) (edgesL 48 s.data.toList s.size) hturn
  have heg := fun i hi => endsL_getD (s.size : Int) (edgesL 49 s.data.toList s.size) (edgesL 48 s.data.toList s.size) i hi hturn
  have hlen1 := edgesL_len 49 s.data.toList s.size
  have HP := Lib.hid (fun w => specPul s w hz)
  rw [show (if (edgesL 48 s.data.toList s.size).length < (edgesL 49 s.data.toList s.size).length then edgesL 48 s.data.toList s.size ++ [(s.size : Int)] else edgesL 48 s.data.toList s.size) = endsL (s.size : Int) (edgesL 49 s.data.toList s.size) (edgesL 48 s.data.toList s.size) from rfl] at hend
  have hbd : ∀ i, i < (edgesL 49 s.data.toList s.size).length → ∃ u d : Nat, (edgesL 49 s.data.toList s.size).getD i 0 = (u : Int) ∧ (endsL (s.size : Int) (edgesL 49 s.data.toList s.size) (edgesL 48 s.data.toList s.size)).getD i 0 = (d : Int) ∧ u < s.size ∧ d ≤ s.size := by
    intro i hi
    have h1 := hu i hi
    refine ⟨((edgesL 49 s.data.toList s.size).getD i 0).toNat, ((endsL (s.size : Int) (edgesL 49 s.data.toList s.size) (edgesL 48 s.data.toList s.size)).getD i 0).toNat, by omega, ?_, by omega, ?_⟩
    · rw [heg i hi]
      split
      · have := hd i (by assumption); omega
      · omega
    · rw [heg i hi]
      split
      · have := hd i (by assumption); omega
      · omega
  obtain ⟨us, hus⟩ : ∃ us, edgesL 49 s.data.toList s.size = us := ⟨_, rfl⟩
  rw [hus] at HP hend hbd hes hlen1
  obtain ⟨es, hes2⟩ : ∃ es, endsL (s.size : Int) us (edgesL 48 s.data.toList s.size) = es := ⟨_, rfl⟩
  rw [hes2] at HP hend hbd hes
  have HEND := Lib.hid hend
  have HBD := Lib.hid hbd
  have HES := Lib.hid hes
  obtain ⟨i0, hi, hz0, hz1, hz2⟩ := info_parts info_u8
  clear hw hc hall hturn hend hu hd heg hus hes2 hbd hes
  go_enter Try.func12, Try.ntmps12
  go_wp2_with fail
  refine (HF.out _).mono ?_; rintro e w1 ⟨rfl, rfl⟩
  go_wp2_with fail
  refine (HP.out _).mono ?_; rintro e w2 ⟨v1, v2, rfl, i1, i2, b2⟩
  have HI1 := Lib.hid i1
  have HI2 := Lib.hid i2
  have HB2 := Lib.hid b2
  have hsz2 : w.heap.size ≤ w2.heap.size := b2.size
  obtain ⟨a1, cap1, rfl, -, -⟩ := i1.form
  obtain ⟨a2, cap2, rfl, -, -⟩ := i2.form
  clear i1 i2 b2
  go_wp2_with (at_make; refine wpList_make_full _ rfl _ _ 25 rfl w2.heap.size 5 i0 (.int .u8 0) 1 Try.underlying25 hi hz0 hz1 .i64 .i64 (s.size : Int) (s.size : Int) s.size rfl rfl rfl rfl (by rw [hz2]; omega) (by unfold maxLen; omega) (by first | (simp; done) | omega) ?_; intro w3 hown3 hgrow3)
  have hb3 : Below w2.heap.size w2 w3 := (Below.refl w2.heap.size w2).grown hgrow3 (by simp) (fun k e => by cases e)
  obtain ⟨a3, ha3⟩ : ∃ a3, (some (⟨w2.heap.size, 0, none⟩ : Addr)) = a3 := ⟨_, rfl⟩
  try rw [ha3] at hown3
  try rw [ha3]
  have hbuf3 : Buf w3 w2.heap.size (.slice a3 s.size s.size) (List.replicate s.size 0) := by
    unfold Buf
    rw [← zerosB, List.length_replicate]
    have h : w3.ownsRow w2.heap.size 5 1 (.slice a3 s.size s.size) s.size (madeCells (Value.int IntKind.u8 0).cells s.size).toList := by simpa using hown3
    exact h
  have HB3 := Lib.hid hb3
  have HU3 := Lib.hid hbuf3
  clear hb3 hown3 hgrow3 hbuf3 ha3
  go_wp2
  go_loopw [26] (fun i wr => ∃ k : Nat, k ≤ s.size ∧ i = .int .i64 (k : Int) ∧ Hid (Buf wr w2.heap.size (.slice a3 s.size s.size) (List.replicate k 48 ++ List.replicate (s.size - k) 0)) ∧ Hid (Below w2.heap.size w2 wr)) (fun i _ => s.size - (intOf i).toNat)
  case atStart => exact ⟨0, Nat.zero_le _, rfl, by simpa using HU3, HB3⟩
  case round =>
    obtain ⟨k, hk, rfl, HU, HB⟩ := hrel
    by_cases hlt : k < s.size
    · obtain ⟨g, hg, hBg, ⟨x, hcell⟩, hfr, -, hput⟩ := HU.out.at k (by simp; omega)
      subst hg
      have HPUT := Lib.hid (hput 48)
      have HBB := Lib.hid hBg
      clear hput
      go_wp2
      go_roundw
      case rel => exact ⟨k + 1, by omega, by go_num, by have h := HPUT.out; rw [fill_step 48 0 s.size k hlt] at h; exact Lib.hid h, Lib.hid (HB.out.setCell (by first | exact HBB.out | (simp; exact HBB.out)) _)⟩
      case measure => simp [intOf]; omega
    · obtain rfl : k = s.size := by omega
      have HU4 : Hid (Buf wr w2.heap.size (.slice a3 s.size s.size) (paintP (T : Int) s.size ((us.zip es).take 0))) := by
        have h := HU.out
        simp only [Nat.sub_self, List.replicate_zero, List.append_nil] at h
        have e : paintP (T : Int) s.size ((us.zip es).take 0) = List.replicate s.size 48 := by
          apply List.ext_getElem
          · simp [paintP]
          · intro i h1 h2; simp [paintP, hitP]
        rw [e]; exact Lib.hid h
      obtain ⟨w4, hw4⟩ : ∃ w4, wr = w4 := ⟨_, rfl⟩
      rw [hw4] at HB HU4 ⊢
      clear hw4 HU
      go_wp2
      go_loopw [10] (fun i wr => ∃ k : Nat, k ≤ us.length ∧ i = .int .i64 (k : Int) ∧ Hid (Buf wr w2.heap.size (.slice a3 s.size s.size) (paintP (T : Int) s.size ((us.zip es).take k))) ∧ Hid (Below w2.heap.size w2 wr)) (fun i _ => us.length - (intOf i).toNat)
      case atStart => exact ⟨0, Nat.zero_le _, rfl, HU4, HB⟩
      case round =>
        obtain ⟨k, hk, rfl, HU5, HB5⟩ := hrel
        by_cases hlt5 : k < us.length
        · obtain ⟨u, d, eu, ed, hu, hd⟩ := HBD.out k hlt5
          have HTN := Lib.hid (take_next us es k hlt5 HES.out)
          have hke : k < es.length := by rw [HES.out]; exact hlt5
          obtain ⟨g1, rfl, hB1, hg1, c1⟩ := HI1.out.at k hlt5
          obtain ⟨g2, rfl, hB2, hg2, c2⟩ := HI2.out.at k (by rw [HES.out]; exact hlt5)
          rw [eu] at c1 HTN
          rw [ed] at c2 HTN
          have HC : Hid (∀ W, Below w2.heap.size w2 W → W.cell? ⟨g1, k, none⟩ = some (.int .i64 (u : Int)) ∧ W.cell? ⟨g2, k, none⟩ = some (.int .i64 (d : Int))) := fun W hW => ⟨(hW.cell (p := ⟨g1, k, none⟩) hg1).trans c1, (hW.cell (p := ⟨g2, k, none⟩) hg2).trans c2⟩
          have hwd : IntKind.i64.wrap ((d : Int) - (u : Int)) = (d : Int) - (u : Int) := IntWalk.i64_in _ (by omega)
          clear c1 c2 eu ed
          obtain ⟨c1, c2⟩ := HC.out _ HB5.out
          obtain ⟨ps, hps⟩ : ∃ ps, (us.zip es).take k = ps := ⟨_, rfl⟩
          rw [hps] at HU5 HTN
          obtain ⟨wo, hwo⟩ : ∃ wo, wr = wo := ⟨_, rfl⟩
          rw [hwo] at HU5 HB5 c1 c2 ⊢
          clear hwo hps
          go_wp2
          go_loopw [11] (fun iv wr => ∃ i : Nat, u ≤ i ∧ i ≤ s.size ∧ iv = .int .i64 (i : Int) ∧ Hid (i = u ∨ ((T : Int) ≤ (d : Int) - (u : Int) ∧ i ≤ d)) ∧ Hid (Buf wr w2.heap.size (.slice a3 s.size s.size) (midP (T : Int) s.size ps u i)) ∧ Hid (Below w2.heap.size w2 wr)) (fun i _ => d - (intOf i).toNat)
          case atStart => exact ⟨u, Nat.le_refl _, by omega, rfl, Lib.hid (.inl rfl), by rw [midP_start]; exact HU5, HB5⟩
          case round =>
            obtain ⟨i, hi1, hi2, rfl, HOR, HU6, HB6⟩ := hrel
            clear c1 c2
            obtain ⟨c1, c2⟩ := HC.out _ HB6.out
            by_cases h1 : i < d
            · by_cases h2 : (T : Int) ≤ (d : Int) - (u : Int)
              · obtain ⟨g, hg, hBg, ⟨x, hcell⟩, hfr, -, hput⟩ := HU6.out.at i (by rw [midP_len]; omega)
                subst hg
                have HPUT := Lib.hid (hput 49)
                have HBB := Lib.hid hBg
                have HM := Lib.hid (midP_step (T : Int) s.size ps u i (by omega) hi1)
                have hltI : (i : Int) < (d : Int) := by omega
                have hdI : decide ((i : Int) < (d : Int)) = true := decide_eq_true hltI
                have hdT : decide ((T : Int) ≤ (d : Int) - (u : Int)) = true := decide_eq_true h2
                have hin : i < s.size := by omega
                clear hput
                go_wp2
                go_quiet (fail)
                go_wp2
                go_roundw
                case rel => exact ⟨i + 1, by omega, by omega, by go_num, Lib.hid (.inr ⟨h2, h1⟩), by have h := HPUT.out; rw [HM.out] at h; exact Lib.hid h, Lib.hid ((below_dN _ HB6.out).setCell (by first | exact HBB.out | (simp; exact HBB.out)) _)⟩
                case measure => simp [intOf]; omega
              · have hltI : (i : Int) < (d : Int) := by omega
                have hdI : decide ((i : Int) < (d : Int)) = true := decide_eq_true hltI
                have hdT : decide ((T : Int) ≤ (d : Int) - (u : Int)) = false := decide_eq_false h2
                have HFIN : Hid (Buf wr w2.heap.size (.slice a3 s.size s.size) (paintP (T : Int) s.size ((us.zip es).take (k + 1)))) := by
                  have h := HU6.out
                  rcases HOR.out with rfl | ⟨h9, _⟩
                  · rw [midP_start] at h
                    rw [HTN.out, paintP_no _ _ _ _ _ h2]; exact Lib.hid h
                  · exact absurd h9 h2
                go_wp2
                go_quiet (fail)
                go_wp2
                go_roundw
                case rel => exact ⟨k + 1, by omega, by go_num, HFIN, Lib.hid (below_dN _ HB6.out)⟩
                case measure => simp [intOf]; omega
            · have hdI : decide ((i : Int) < (d : Int)) = false := decide_eq_false (by omega)
              have hnI : ¬ (i : Int) < (d : Int) := by omega
              have HFIN : Hid (Buf wr w2.heap.size (.slice a3 s.size s.size) (paintP (T : Int) s.size ((us.zip es).take (k + 1)))) := by
                have h := HU6.out
                by_cases h2 : (T : Int) ≤ (d : Int) - (u : Int)
                · obtain rfl : i = d := by
                    rcases HOR.out with rfl | ⟨_, h9⟩
                    · omega
                    · omega
                  rw [midP_end _ _ _ _ _ h2] at h
                  rw [HTN.out]; exact Lib.hid h
                · obtain rfl : i = u := by
                    rcases HOR.out with h9 | ⟨h9, _⟩
                    · exact h9
                    · exact absurd h9 h2
                  rw [midP_start] at h
                  rw [HTN.out, paintP_no _ _ _ _ _ h2]; exact Lib.hid h
              go_wp2
              go_quiet (fail)
              go_wp2
              go_roundw
              case rel => exact ⟨k + 1, by omega, by go_num, HFIN, Lib.hid (below_dN _ HB6.out)⟩
              case measure => simp [intOf]; omega
        · obtain rfl : k = us.length := by omega
          have hconv := run_buf_string _ _ _ _ HU5.out
          rw [show (us.zip es).take us.length = us.zip es from List.take_of_length_le (by simp; omega), ← HEND.out] at hconv
          have HR := Lib.hid (HB2.out.trans (HB5.out.mono hsz2))
          go_wp2
          go_ret2
          exact ⟨rfl, HR.out⟩
theorem specDrop_f (s : ByteArray) (T : Int) (w : World) (hs : s.size ≤ maxLen) (hc : canB s T = false) :
    Calls Try.prog 12 #[.string s, .int .i64 T] w fun e w' => e = .returned (.tuple #[.string ⟨#[]⟩, .bool false]) ∧ Below w.heap.size w w' := by
  have HF := Lib.hid (fun w => l09F_any s T w hs)
  rw [hc] at HF
  clear hc
  go_enter Try.func12, Try.ntmps12
  go_wp2_with fail
  refine (HF.out _).mono ?_; rintro e w1 ⟨rfl, rfl⟩
  go_wp2
  go_ret2
  exact ⟨rfl, Below.refl _ _⟩
end Go.Proofs.Ytkipgeecibimoaa
