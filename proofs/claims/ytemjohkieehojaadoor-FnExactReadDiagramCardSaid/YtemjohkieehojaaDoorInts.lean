/- Numbers that a call collects in a slice of its own; and the three helpers of the laws that compare, mark and read again such a slice. -/
import Derived.Test.YtemjohkieehojaaDoorWords
import Derived.Test.YtemjohkieehojaaDoorRows
import Derived.LoopTactic
import Derived.Maps.AppendAt
import Derived.BigQuiet
import Derived.Deep.QuietTactic
namespace Go.Proofs.YtemjohkieehojaaDoor
open Go.RowKit

theorem info_i64 : (Tryd.prog.info? 2).map (fun i => (i.zero, i.size, i.bytes)) = some (some (.int .i64 0), 1, 8) := by kernel_rfl

/-- the slice value v of the call's own, in blocks from B on, holds the numbers l -/
def Ints (w : World) (B : Nat) (v : Value) (l : List Int) : Prop := w.ownsRow B 2 1 v l.length (l.map (Value.int .i64))

theorem Ints.lit (w : World) : Ints (w.alloc (.cells #[] 2)) w.heap.size (.slice (some ⟨w.heap.size, 0, none⟩) 0 0) [] :=
  World.ownsRow_lit w #[] 0 (Nat.le_refl _) (Nat.zero_le _) rfl
theorem Ints.nil (w : World) (B : Nat) : Ints w B (.slice none 0 0) [] := World.ownsRow_nil _ _ _ _

theorem Ints.form {w : World} {B : Nat} {v : Value} {l : List Int} (h : Ints w B v l) : ∃ a cap, v = .slice a l.length cap ∧ l.length ≤ maxLen ∧
    ∀ k (hk : k < l.length), ∃ g, a = some ⟨g, 0, none⟩ ∧ B ≤ g ∧ g < w.heap.size ∧ w.cell? ⟨g, k, none⟩ = some (.int .i64 l[k]) ∧ w.frozen? ⟨g, k, none⟩ = false := by
  have h' := h
  rcases h with ⟨_, ⟨rfl, hn⟩ | ⟨g, cap, cur, rfl, hg, hh, hc, hm, hs, ht⟩⟩
  · exact ⟨none, 0, by rw [hn], by rw [hn]; exact Nat.zero_le _, fun k hk => by omega⟩
  · refine ⟨_, cap, rfl, Nat.le_trans hc hm, fun k hk => ⟨g, rfl, hg, (Array.getElem?_eq_some_iff.1 hh).1, ?_, ?_⟩⟩
    · rw [World.ownsRow.cellAt h' k (by omega)]; simp [List.getElem?_eq_getElem hk]
    · exact World.ownsRow.frozenAt h' k
theorem Ints.keep {w w' : World} {B : Nat} {v : Value} {l : List Int} (h : Ints w B v l) {N : Nat} (hb : Below N w w') (hN : w.heap.size ≤ N) : Ints w' B v l := by
  rcases h with ⟨h1, ⟨rfl, hn⟩ | ⟨g, cap, cur, rfl, hg, hh, hc, hm, hs, ht⟩⟩
  · exact ⟨h1, .inl ⟨rfl, hn⟩⟩
  · exact ⟨h1, .inr ⟨g, cap, cur, rfl, hg, (hb.block g (by have := (Array.getElem?_eq_some_iff.1 hh).1; omega)).trans hh, hc, hm, hs, ht⟩⟩
/-- a row that lies in blocks below N, of which nothing turns -/
theorem Ints.keepLt {w0 w w' : World} {B : Nat} {v : Value} {l : List Int} (h0 : Ints w0 B v l) (h : Ints w B v l) {N : Nat} (hb : Below N w w') (hN : w0.heap.size ≤ N) : Ints w' B v l := by
  rcases h with ⟨h1, ⟨rfl, hn⟩ | ⟨g, cap, cur, rfl, hg, hh, hc, hm, hs, ht⟩⟩
  · exact ⟨h1, .inl ⟨rfl, hn⟩⟩
  · have hlt := (World.ownsRow.lt h0 g rfl).2
    exact ⟨h1, .inr ⟨g, cap, cur, rfl, hg, (hb.block g (by omega)).trans hh, hc, hm, hs, ht⟩⟩

theorem eqInts_same (B1 B2 : Nat) (v1 v2 : Value) (l : List Int) (w : World) (h1 : Ints w B1 v1 l) (h2 : Ints w B2 v2 l) :
    Calls Tryd.prog 8 #[v1, v2] w fun e w' => e = .returned (.bool true) ∧ ∃ q, w' = w.drewN q := by
  obtain ⟨a1, c1, rfl, hl, k1⟩ := h1.form
  obtain ⟨a2, c2, rfl, _, k2⟩ := h2.form
  unfold maxLen at hl
  have K1 := Lib.hid k1
  have K2 := Lib.hid k2
  clear k1 k2 h1 h2
  go_enter Tryd.func8, Tryd.ntmps8
  go_wp2
  go_loopw [5] (fun i wr => ∃ k : Nat, k ≤ l.length ∧ i = .int .i64 k ∧ ∃ q, wr = w.drewN q) (fun i _ => l.length - (intOf i).toNat)
  case atStart => exact ⟨0, Nat.zero_le _, rfl, 0, rfl⟩
  case round =>
    obtain ⟨k, hk, rfl, q, rfl⟩ := hrel
    by_cases hlt : k < l.length
    · obtain ⟨g1, rfl, _, _, hc1, _⟩ := K1.out k hlt
      obtain ⟨g2, rfl, _, _, hc2, _⟩ := K2.out k hlt
      go_wp2
      go_quiet (fail)
      go_wp2
      go_roundw
      case rel => exact ⟨k + 1, by omega, by go_num, _, rfl⟩
      case measure => simp [intOf]; omega
    · go_wp2
      go_ret
      exact ⟨rfl, q, rfl⟩

/-- the numbers from c on, n of them -/
def seqL (c : Int) (n : Nat) : List Int := (List.range n).map (fun j : Nat => c + (j : Int))
theorem seqL_len (c : Int) (n : Nat) : (seqL c n).length = n := by simp [seqL]
theorem seqL_get (c : Int) (n k : Nat) (h : k < (seqL c n).length) : (seqL c n)[k] = c + (k : Int) := by simp [seqL]
def markL (c : Int) (l : List Int) (i : Nat) : List Int := seqL c i ++ l.drop i
theorem markL_len (c : Int) (l : List Int) (i : Nat) (h : i ≤ l.length) : (markL c l i).length = l.length := by simp [markL, seqL]; omega
theorem markL_step (c : Int) (l : List Int) (i : Nat) (h : i < l.length) : (markL c l i).set i (c + (i : Int)) = markL c l (i + 1) := by
  unfold markL
  rw [List.set_append, if_neg (by rw [seqL_len]; omega)]
  have : (l.drop i).set (i - (seqL c i).length) (c + (i : Int)) = (c + (i : Int)) :: l.drop (i + 1) := by
    rw [seqL_len, Nat.sub_self, List.drop_eq_getElem_cons h]; rfl
  rw [this]
  simp [seqL, List.range_succ]
theorem markL_end (c : Int) (l : List Int) : markL c l l.length = seqL c l.length := by simp [markL]

theorem Ints.put {w : World} {B g cap n : Nat} {l : List Int} (h : Ints w B (.slice (some ⟨g, 0, none⟩) n cap) l) (j : Nat) (x : Int) : Ints (w.setCell ⟨g, j, none⟩ (.int .i64 x)) B (.slice (some ⟨g, 0, none⟩) n cap) (l.set j x) := by
  have hn : n = l.length := by
    obtain ⟨a, c, he, _⟩ := h.form
    simp at he; exact he.2.1
  subst hn
  have := (World.ownsRow.stored h j (.int .i64 x)).1
  unfold Ints
  rw [List.length_set, List.map_set]
  exact this

theorem markInts (B : Nat) (v : Value) (l : List Int) (c : Int) (w : World) (h : Ints w B v l) (hc0 : 0 ≤ c) (hc1 : c + l.length ≤ 9223372036854775807) :
    Calls Tryd.prog 9 #[v, .int .i64 c] w fun e w' => e = .returned (.int .i64 (c + l.length)) ∧ Ints w' B v (seqL c l.length) ∧ Below B w w' ∧ w'.heap.size = w.heap.size := by
  obtain ⟨a, cap, rfl, hl, _⟩ := h.form
  unfold maxLen at hl
  have H := Lib.hid h
  clear h
  go_enter Tryd.func9, Tryd.ntmps9
  go_wp2
  go_loopw [1, 5] (fun m i wr => ∃ k : Nat, k ≤ l.length ∧ i = .int .i64 k ∧ m = .int .i64 (c + k) ∧ Ints wr B (.slice a l.length cap) (markL c l k) ∧ Below B w wr ∧ wr.heap.size = w.heap.size) (fun _ i _ => l.length - (intOf i).toNat)
  case atStart => exact ⟨0, Nat.zero_le _, rfl, by simp, by simpa [markL, seqL] using H.out, Below.refl _ _, rfl⟩
  case round =>
    obtain ⟨k, hk, rfl, rfl, hi, hb, hsz⟩ := hrel
    have HS := Lib.hid hsz
    clear hsz
    by_cases hlt : k < l.length
    · have hlen := markL_len c l k hk
      obtain ⟨a', cap', hv, _, kk⟩ := hi.form
      simp only [Value.slice.injEq] at hv
      obtain ⟨g, hg, hBg, hgs, hcell, hfr⟩ := kk k (by omega)
      obtain ⟨rfl, _, rfl⟩ := hv
      subst hg
      have HI := Lib.hid (hi.put k (c + k))
      have HM := Lib.hid (markL_step c l k hlt)
      obtain ⟨x, hcx⟩ : ∃ x, wr.cell? ⟨g, k, none⟩ = some (.int .i64 x) := ⟨_, hcell⟩
      clear hi kk hcell hlen
      go_wp2
      go_roundw
      case rel => exact ⟨k + 1, by omega, by go_num, by go_num, by rw [← HM.out]; exact HI.out, hb.setCell hBg _, by simp; exact HS.out⟩
      case measure => simp [intOf]; omega
    · obtain rfl : k = l.length := by omega
      rw [markL_end] at hi
      go_wp2
      go_ret
      exact ⟨rfl, hi, hb, HS.out⟩

theorem heldInts (B : Nat) (v : Value) (n : Nat) (c : Int) (w : World) (h : Ints w B v (seqL c n)) (hc0 : 0 ≤ c) (hc1 : c + n ≤ 9223372036854775807) :
    Calls Tryd.prog 10 #[v, .int .i64 c] w fun e w' => e = .returned (.int .i64 (c + n)) ∧ w = w' := by
  obtain ⟨a, cap, rfl, hl, kk⟩ := h.form
  rw [seqL_len] at hl
  unfold maxLen at hl
  have KK := Lib.hid kk
  have hlen : Hid ((seqL c n).length = n) := seqL_len c n
  rw [hlen.out]
  clear kk h
  go_enter Tryd.func10, Tryd.ntmps10
  go_wp2
  go_loop [1, 5] (fun m i => ∃ k : Nat, k ≤ n ∧ i = .int .i64 k ∧ m = .int .i64 (c + k)) (fun _ i => n - (intOf i).toNat)
  case atStart => exact ⟨0, Nat.zero_le _, rfl, by simp⟩
  case round =>
    obtain ⟨k, hk, rfl, rfl⟩ := hrel
    by_cases hlt : k < n
    · obtain ⟨g, rfl, _, _, hcell, _⟩ := KK.out k (by rw [hlen.out]; exact hlt)
      rw [seqL_get] at hcell
      go_wp2
      go_round
      case rel => exact ⟨k + 1, by omega, by go_num, by go_num⟩
      case measure => simp [intOf]; omega
    · obtain rfl : k = n := by omega
      go_wp2
      go_ret
      exact ⟨rfl, rfl⟩
end Go.Proofs.YtemjohkieehojaaDoor
