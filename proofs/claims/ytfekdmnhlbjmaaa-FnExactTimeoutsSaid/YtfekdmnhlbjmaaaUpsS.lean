/- How often a wave goes up from a tick to before another one, on the model's side. -/
import Derived.Test.YtfekdmnhlbjmaaaEdgeSpec
import Derived.Test.YtfekdmnhlbjmaaaWinF
import Derived.Test.YtfekdmnhlbjmaaaIn64
import Derived.WalkSmall
import Derived.IntWalk
namespace Go.Proofs.Ytfekdmnhlbjmaaa
open Go.RowKit
set_option linter.unusedVariables false
set_option linter.unusedSimpArgs false

/-- how many of the first k numbers of a list lie from a to before b -/
def cntR (a b : Int) (l : List Int) : Nat → Nat
  | 0 => 0
  | k + 1 => cntR a b l k + (if a ≤ l.getD k 0 ∧ l.getD k 0 < b then 1 else 0)
theorem cntR_le (a b : Int) (l : List Int) (k : Nat) : cntR a b l k ≤ k := by
  induction k with
  | zero => exact Nat.le_refl _
  | succ k ih => simp only [cntR]; split <;> omega
theorem cntR_congr (a b : Int) (l m : List Int) (k : Nat) (h : ∀ j, j < k → l.getD j 0 = m.getD j 0) : cntR a b l k = cntR a b m k := by
  induction k with
  | zero => rfl
  | succ k ih => rw [cntR, cntR, ih (fun j hj => h j (by omega)), h k (by omega)]
theorem up_edge {s : ByteArray} (hw : waveB s.data.toList = true) (k : Nat) (h : k < s.size) : upB s k = true ↔ ((s[k].toNat : Int) = 49 ∧ prL s.data.toList k ≠ 49) := by
  have e0 := wave_at hw k h
  have e1 : prL s.data.toList k ≠ 49 ↔ ¬ (0 < k ∧ bit s (k - 1) = true) := by
    unfold prL
    by_cases hk : k = 0
    · rw [if_pos hk]; simp; omega
    · rw [if_neg hk, lvL_get s (k - 1) (by omega), wave_at hw (k - 1) (by omega)]
      cases bit s (k - 1) <;> simp; omega
  rw [e1, e0]
  unfold upB
  cases bit s k with
  | false => simp
  | true => cases bit s (k - 1) <;> simp <;> omega
theorem cnt_edges {s : ByteArray} (hw : waveB s.data.toList = true) (a b : Nat) : ∀ n, n ≤ s.size → cntR (a : Int) (b : Int) (edgesL 49 s.data.toList n) (edgesL 49 s.data.toList n).length = cntN (upB s) a (min n b - a) := by
  intro n
  induction n with
  | zero => intro _; simp [edgesL, cntR, cntN]
  | succ n ih =>
    intro h
    have ih := ih (by omega)
    have hlt : n < s.size := by omega
    by_cases hu : upB s n = true
    · have hu2 := (up_edge hw n hlt).1 hu
      rw [edgesL_hit 49 s n hlt hu2.1 hu2.2, List.length_append, List.length_singleton, cntR]
      rw [cntR_congr _ _ _ (edgesL 49 s.data.toList n) _ (fun j hj => by rw [List.getD_eq_getElem?_getD, List.getD_eq_getElem?_getD, List.getElem?_append_left hj]), ih]
      have e : (edgesL 49 s.data.toList n ++ [(n : Int)]).getD (edgesL 49 s.data.toList n).length 0 = (n : Int) := by
        rw [List.getD_eq_getElem?_getD, List.getElem?_append_right (Nat.le_refl _)]; simp
      rw [e]
      by_cases hr : a ≤ n ∧ n < b
      · rw [if_pos (by omega), show min (n + 1) b - a = (min n b - a) + 1 by omega, cntN, show a + (min n b - a) = n by omega, if_pos hu]
      · rw [if_neg (by omega), show min (n + 1) b - a = min n b - a by omega]; rfl
    · have hm : (s[n].toNat : Int) ≠ 49 ∨ prL s.data.toList n = 49 := by
        rcases Decidable.em ((s[n].toNat : Int) = 49) with q | q
        · rcases Decidable.em (prL s.data.toList n = 49) with r | r
          · exact .inr r
          · exact absurd ((up_edge hw n hlt).2 ⟨q, r⟩) hu
        · exact .inl q
      rw [edgesL_miss 49 s n hlt hm, ih]
      by_cases hr : a ≤ n ∧ n < b
      · rw [show min (n + 1) b - a = (min n b - a) + 1 by omega, cntN, show a + (min n b - a) = n by omega, if_neg hu]; rfl
      · rw [show min (n + 1) b - a = min n b - a by omega]
theorem Ints.atU {w : World} {B n cap : Nat} {a : Option Addr} {l : List Int} (h : Ints w B (.slice a n cap) l) (k : Nat) (hk : k < l.length) :
    ∃ g, a = some ⟨g, 0, none⟩ ∧ B ≤ g ∧ g < w.heap.size ∧ w.cell? ⟨g, k, none⟩ = some (.int .i64 (l.getD k 0)) := by
  obtain ⟨a', cap', hv, _, kk⟩ := h.form
  simp only [Value.slice.injEq] at hv
  obtain ⟨rfl, -, -⟩ := hv
  obtain ⟨g, h1, h2, h3, h4, _⟩ := kk k hk
  exact ⟨g, h1, h2, h3, by rw [h4, List.getD_eq_getElem?_getD, List.getElem?_eq_getElem hk]; rfl⟩
set_option maxHeartbeats 2000000 in
set_option maxRecDepth 100000 in
theorem ups_any (s : ByteArray) (a b : Nat) (w : World) (hw : waveB s.data.toList = true) (hb : b ≤ s.size) :
    Calls Try.prog 55 #[.string s, .int .i64 (a : Int), .int .i64 (b : Int)] w fun e w' => e = .returned (.int .i64 ((cntN (upB s) a (b - a) : Nat) : Int)) ∧ Below w.heap.size w w' := by
  have hz := wave_le hw
  have HE := Lib.hid (fun w => specEdges 49 s w (by omega))
  have HC := Lib.hid (cnt_edges hw a b s.size (Nat.le_refl _))
  have hln := edgesL_len 49 s.data.toList s.size
  obtain ⟨L, hL⟩ : ∃ L, edgesL 49 s.data.toList s.size = L := ⟨_, rfl⟩
  rw [hL] at HE HC hln
  have HC2 : Hid (cntR (a : Int) (b : Int) L L.length = cntN (upB s) a (b - a)) := by show _ = _; rw [HC.out, Nat.min_eq_right hb]
  clear hL HC hw
  go_enter Try.func55, Try.ntmps55
  go_wp2_with fail
  refine (HE.out _).mono ?_; rintro e w1 ⟨v, rfl, i1, b1⟩
  obtain ⟨a1, cap1, rfl, -, -⟩ := i1.form
  have HI := Lib.hid i1
  have HB := Lib.hid b1
  clear i1 b1
  go_wp2
  go_loopw [7, 9] (fun n i wr => ∃ k c : Nat, k ≤ L.length ∧ i = .int .i64 k ∧ n = .int .i64 c ∧ Hid (c = cntR (a : Int) (b : Int) L k) ∧ wr = w1) (fun _ i _ => L.length - (intOf i).toNat)
  case atStart => exact ⟨0, 0, Nat.zero_le _, rfl, rfl, rfl, rfl⟩
  case round =>
    obtain ⟨k, c, hk, rfl, rfl, HCK, rfl⟩ := hrel
    by_cases hlt : k < L.length
    · obtain ⟨g, rfl, -, -, hc⟩ := HI.out.atU k hlt
      have hcle : c ≤ k := by rw [HCK.out]; exact cntR_le _ _ _ _
      have HS : Hid (cntR (a : Int) (b : Int) L (k + 1) = cntR (a : Int) (b : Int) L k + (if (a : Int) ≤ L.getD k 0 ∧ L.getD k 0 < (b : Int) then 1 else 0)) := rfl
      obtain ⟨x, hx⟩ : ∃ x, L.getD k 0 = x := ⟨_, rfl⟩
      rw [hx] at hc HS
      have hltI : (k : Int) < (L.length : Int) := by omega
      have hwc : IntKind.i64.wrap ((c : Int) + 1) = ((c + 1 : Nat) : Int) := by rw [IntWalk.i64_in _ (by omega)]; omega
      clear hx
      by_cases h1 : (a : Int) ≤ x
      · have d1 := decide_eq_true h1
        by_cases h2 : x < (b : Int)
        · have d2 := decide_eq_true h2
          have HS2 : Hid (c + 1 = cntR (a : Int) (b : Int) L (k + 1)) := by show _ = _; rw [HS.out, if_pos ⟨h1, h2⟩, HCK.out]
          clear HS
          go_wp2
          go_roundw
          case rel => exact ⟨k + 1, c + 1, by omega, by go_num, by go_num, HS2, by first | trivial | rfl⟩
          case measure => simp [intOf]; omega
        · have d2 := decide_eq_false h2
          have HS2 : Hid (c = cntR (a : Int) (b : Int) L (k + 1)) := by show _ = _; rw [HS.out, if_neg (fun q => h2 q.2), HCK.out]; rfl
          clear HS
          go_wp2
          go_roundw
          case rel => exact ⟨k + 1, c, by omega, by go_num, by first | rfl | go_num, HS2, by first | trivial | rfl⟩
          case measure => simp [intOf]; omega
      · have d1 := decide_eq_false h1
        have HS2 : Hid (c = cntR (a : Int) (b : Int) L (k + 1)) := by show _ = _; rw [HS.out, if_neg (fun q => h1 q.1), HCK.out]; rfl
        clear HS
        go_wp2
        go_roundw
        case rel => exact ⟨k + 1, c, by omega, by go_num, by first | rfl | go_num, HS2, by first | trivial | rfl⟩
        case measure => simp [intOf]; omega
    · obtain rfl : k = L.length := by omega
      go_wp2
      go_ret
      exact ⟨ret_int (by rw [HCK.out, HC2.out]), HB.out⟩
end Go.Proofs.Ytfekdmnhlbjmaaa
