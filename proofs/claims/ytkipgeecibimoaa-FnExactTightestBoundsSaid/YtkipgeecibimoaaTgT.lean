/- Tables of numbers: compared, marked and read again. -/
import Derived.Test.YtkipgeecibimoaaTgI
namespace Go.Proofs.Ytkipgeecibimoaa
open Go.RowKit
set_option linter.unusedVariables false
set_option linter.unusedSimpArgs false

def RowC (w : World) (g n : Nat) (f : Nat → Int) : Prop := ∀ k, k < n → w.cell? ⟨g, k, none⟩ = some (.int .i64 (f k)) ∧ w.frozen? ⟨g, k, none⟩ = false
theorem eqRow (g1 c1 g2 c2 n : Nat) (f : Nat → Int) (w : World) (hn : n ≤ 10) (h1 : RowC w g1 n f) (h2 : RowC w g2 n f) :
    Calls Try.prog 104 #[.slice (some ⟨g1, 0, none⟩) n c1, .slice (some ⟨g2, 0, none⟩) n c2] w fun e w' => e = .returned (.bool true) ∧ ∃ q, w' = w.drewN q := by
  have K1 := Lib.hid h1
  have K2 := Lib.hid h2
  clear h1 h2
  go_enter Try.func104, Try.ntmps104
  go_wp2
  go_loopw [5] (fun i wr => ∃ k : Nat, k ≤ n ∧ i = .int .i64 k ∧ ∃ q, wr = w.drewN q) (fun i _ => n - (intOf i).toNat)
  case atStart => exact ⟨0, Nat.zero_le _, rfl, 0, rfl⟩
  case round =>
    obtain ⟨k, hk, rfl, q, rfl⟩ := hrel
    by_cases hlt : k < n
    · obtain ⟨hc1, _⟩ := K1.out k hlt
      obtain ⟨hc2, _⟩ := K2.out k hlt
      go_wp2
      go_quiet (fail)
      go_wp2
      go_roundw
      case rel => exact ⟨k + 1, by omega, by go_num, _, rfl⟩
      case measure => simp [intOf]; omega
    · go_wp2
      go_ret
      exact ⟨rfl, q, rfl⟩
theorem markRow (g cap n : Nat) (c : Int) (w : World) (hn : n ≤ 10) (hx : ∀ k, k < n → (∃ x, w.cell? ⟨g, k, none⟩ = some (.int .i64 x)) ∧ w.frozen? ⟨g, k, none⟩ = false) (hc0 : 0 ≤ c) (hc1 : c ≤ 1000000) :
    Calls Try.prog 107 #[.slice (some ⟨g, 0, none⟩) n cap, .int .i64 c] w fun e w' => e = .returned (.int .i64 (c + n)) ∧ RowC w' g n (fun k => c + (k : Int)) ∧ w.grownBy w' (some g) := by
  have H := Lib.hid hx
  clear hx
  go_enter Try.func107, Try.ntmps107
  go_wp2
  go_loopw [1, 5] (fun m i wr => ∃ k : Nat, k ≤ n ∧ i = .int .i64 k ∧ m = .int .i64 (c + k) ∧ Hid (RowC wr g k (fun k => c + (k : Int))) ∧ Hid (∀ j, k ≤ j → j < n → (∃ x, wr.cell? ⟨g, j, none⟩ = some (.int .i64 x)) ∧ wr.frozen? ⟨g, j, none⟩ = false) ∧ Hid (w.grownBy wr (some g))) (fun _ i _ => n - (intOf i).toNat)
  case atStart => exact ⟨0, Nat.zero_le _, rfl, by simp, fun j hj => absurd hj (Nat.not_lt_zero _), fun j _ hj => H.out j hj, ⟨rfl, rfl, rfl, Nat.le_refl _, fun _ _ _ => rfl⟩⟩
  case round =>
    obtain ⟨k, hk, rfl, rfl, HI, HX, HG⟩ := hrel
    by_cases hlt : k < n
    · obtain ⟨⟨x, hcx⟩, hfx⟩ := HX.out k (Nat.le_refl _) hlt
      have HI2 : Hid (RowC (wr.setCell ⟨g, k, none⟩ (.int .i64 (c + k))) g (k + 1) (fun k => c + (k : Int))) := fun j hj => by
        by_cases e : j = k
        · subst e
          exact ⟨World.cell?_setCell_same wr _ _ hcx, by rw [World.frozen?_setCell]; exact hfx⟩
        · obtain ⟨q1, q2⟩ := HI.out j (by omega)
          exact ⟨(World.cell?_setCell_other wr _ _ _ (fun e2 => e (by injection e2 with _ e3; exact e3.symm))).trans q1, by rw [World.frozen?_setCell]; exact q2⟩
      have HX2 : Hid (∀ j, k + 1 ≤ j → j < n → (∃ x, (wr.setCell ⟨g, k, none⟩ (.int .i64 (c + k))).cell? ⟨g, j, none⟩ = some (.int .i64 x)) ∧ (wr.setCell ⟨g, k, none⟩ (.int .i64 (c + k))).frozen? ⟨g, j, none⟩ = false) := fun j h1 h2 => by
        obtain ⟨⟨y, hy⟩, q2⟩ := HX.out j (by omega) h2
        exact ⟨⟨y, (World.cell?_setCell_other wr _ _ _ (fun e2 => by injection e2 with _ e3; omega)).trans hy⟩, by rw [World.frozen?_setCell]; exact q2⟩
      have HG2 : Hid (w.grownBy (wr.setCell ⟨g, k, none⟩ (.int .i64 (c + k))) (some g)) := ⟨HG.out.os, HG.out.tape, HG.out.output, by simpa using HG.out.size, fun i hi hne => (Below.heap_setCell _ _ _ _ (by show i ≠ g; intro e; exact hne (by rw [e]))).trans (HG.out.block i hi hne)⟩
      go_wp2
      go_roundw
      case rel => exact ⟨k + 1, by omega, by go_num, by go_num, HI2, HX2, HG2⟩
      case measure => simp [intOf]; omega
    · obtain rfl : k = n := by omega
      go_wp2
      go_ret
      exact ⟨rfl, HI.out, HG.out⟩
theorem heldRow (g cap n : Nat) (c : Int) (w : World) (hn : n ≤ 10) (h : RowC w g n (fun k => c + (k : Int))) (hc0 : 0 ≤ c) (hc1 : c ≤ 1000000) :
    Calls Try.prog 108 #[.slice (some ⟨g, 0, none⟩) n cap, .int .i64 c] w fun e w' => e = .returned (.int .i64 (c + n)) ∧ w = w' := by
  have KK := Lib.hid h
  clear h
  go_enter Try.func108, Try.ntmps108
  go_wp2
  go_loop [1, 5] (fun m i => ∃ k : Nat, k ≤ n ∧ i = .int .i64 k ∧ m = .int .i64 (c + k)) (fun _ i => n - (intOf i).toNat)
  case atStart => exact ⟨0, Nat.zero_le _, rfl, by simp⟩
  case round =>
    obtain ⟨k, hk, rfl, rfl⟩ := hrel
    by_cases hlt : k < n
    · obtain ⟨hcell, _⟩ := KK.out k hlt
      dsimp only at hcell
      go_wp2
      go_round
      case rel => exact ⟨k + 1, by omega, by go_num, by go_num⟩
      case measure => simp [intOf]; omega
    · obtain rfl : k = n := by omega
      go_wp2
      go_ret
      exact ⟨rfl, rfl⟩
/-- what is answered: no table, or one of N rows -/
def TgV (w : World) (B : Nat) (v : Value) (N : Nat) (M : Nat → Nat → Int) : Prop := (N = 0 ∧ v = .slice none 0 0) ∨ ∃ (go cap : Nat) (g c : Nat → Nat), v = .slice (some ⟨go, 0, none⟩) N cap ∧ N ≤ cap ∧ MatW w B N M go g c
theorem TgV.form {w : World} {B : Nat} {v : Value} {N : Nat} {M : Nat → Nat → Int} (h : TgV w B v N M) : ∃ a cap, v = .slice a N cap ∧ ∀ i, i < N → ∃ go gi ci, a = some ⟨go, 0, none⟩ ∧ w.cell? ⟨go, i, none⟩ = some (.slice (some ⟨gi, 0, none⟩) N ci) ∧ RowC w gi N (M i) := by
  rcases h with ⟨rfl, rfl⟩ | ⟨go, cap, g, c, rfl, _, hm⟩
  · exact ⟨none, 0, rfl, fun i hi => by omega⟩
  · exact ⟨_, cap, rfl, fun i hi => ⟨go, g i, c i, rfl, hm.row i hi, fun k hk => hm.cell i k hi hk⟩⟩
theorem TgV.below {w w' : World} {B K : Nat} {v : Value} {N : Nat} {M : Nat → Nat → Int} (h : TgV w B v N M) (hb : Below K w w') (hK : w.heap.size ≤ K) : TgV w' B v N M := by
  rcases h with h | ⟨go, cap, g, c, rfl, h2, hm⟩
  · exact .inl h
  · exact .inr ⟨go, cap, g, c, rfl, h2, hm.below hb hK⟩
theorem MatW.grownLt {w w' : World} {B n : Nat} {M : Nat → Nat → Int} {go : Nat} {g c : Nat → Nat} {row : Option Nat} (h : MatW w B n M go g c) (hg : w.grownBy w' row) (hne : ∀ r, row = some r → r < B) : MatW w' B n M go g c := by
  have ne : ∀ x, B ≤ x → some x ≠ row := fun x hx e => by have := hne x e.symm; omega
  exact ⟨h.hgo, Nat.lt_of_lt_of_le h.hlt hg.size, fun i hi => hg.cell (h.row i hi) (ne _ h.hgo), fun i hi => ⟨(h.hg i hi).1, (h.hg i hi).2.1, (h.hg i hi).2.2.1, Nat.lt_of_lt_of_le (h.hg i hi).2.2.2 hg.size⟩, h.inj, fun i k hi hk => ⟨hg.cell (h.cell i k hi hk).1 (ne _ (h.hg i hi).1), (World.frozen?_of_block (hg.block (g i) (h.hg i hi).2.2.2 (ne _ (h.hg i hi).1))).trans (h.cell i k hi hk).2⟩⟩
theorem TgV.grownLt {w w' : World} {B : Nat} {v : Value} {N : Nat} {M : Nat → Nat → Int} {row : Option Nat} (h : TgV w B v N M) (hg : w.grownBy w' row) (hne : ∀ r, row = some r → r < B) : TgV w' B v N M := by
  rcases h with h | ⟨go, cap, g, c, rfl, h2, hm⟩
  · exact .inl h
  · exact .inr ⟨go, cap, g, c, rfl, h2, hm.grownLt hg hne⟩
theorem MatW.rowSet {w w' : World} {B n : Nat} {M : Nat → Nat → Int} {go : Nat} {g c : Nat → Nat} {f : Nat → Int} {i : Nat} (h : MatW w B n M go g c) (hi : i < n) (hg : w.grownBy w' (some (g i))) (hr : RowC w' (g i) n f) : MatW w' B n (fun a b => if a = i then f b else M a b) go g c := by
  refine ⟨h.hgo, Nat.lt_of_lt_of_le h.hlt hg.size, fun a ha => hg.cell (h.row a ha) (fun e => (h.hg i hi).2.1 (by injection e with e; exact e.symm)), fun a ha => ⟨(h.hg a ha).1, (h.hg a ha).2.1, (h.hg a ha).2.2.1, Nat.lt_of_lt_of_le (h.hg a ha).2.2.2 hg.size⟩, h.inj, fun a k ha hk => ?_⟩
  by_cases e : a = i
  · subst e
    simp only [if_true]
    exact hr k hk
  · have ne : some (g a) ≠ some (g i) := fun e2 => e (h.inj a i ha hi (by injection e2))
    simp only [if_neg e]
    exact ⟨hg.cell (h.cell a k ha hk).1 ne, (World.frozen?_of_block (hg.block (g a) (h.hg a ha).2.2.2 ne)).trans (h.cell a k ha hk).2⟩
set_option maxHeartbeats 400000 in
theorem eqTab (B1 B2 N : Nat) (M : Nat → Nat → Int) (v1 v2 : Value) (w : World) (hN : N ≤ 10) (h1 : TgV w B1 v1 N M) (h2 : TgV w B2 v2 N M) :
    Calls Try.prog 45 #[v1, v2] w fun e w' => e = .returned (.bool true) ∧ ∃ q, w' = w.drewN q := by
  obtain ⟨a1, c1, rfl, k1⟩ := h1.form
  obtain ⟨a2, c2, rfl, k2⟩ := h2.form
  have K1 := Lib.hid k1
  have K2 := Lib.hid k2
  clear k1 k2 h1 h2
  go_enter Try.func45, Try.ntmps45
  go_wp2
  go_loopw [5] (fun i wr => ∃ k : Nat, k ≤ N ∧ i = .int .i64 k ∧ ∃ q, wr = w.drewN q) (fun i _ => N - (intOf i).toNat)
  case atStart => exact ⟨0, Nat.zero_le _, rfl, 0, rfl⟩
  case round =>
    obtain ⟨k, hk, rfl, q, rfl⟩ := hrel
    by_cases hlt : k < N
    · obtain ⟨go1, g1, d1, rfl, hc1, hr1⟩ := K1.out k hlt
      obtain ⟨go2, g2, d2, rfl, hc2, hr2⟩ := K2.out k hlt
      have HE : Hid (∀ q, Calls Try.prog 104 #[.slice (some ⟨g1, 0, none⟩) N d1, .slice (some ⟨g2, 0, none⟩) N d2] (w.drewN q) fun e w' => e = .returned (.bool true) ∧ ∃ q, w' = w.drewN q) := fun q => (eqRow g1 d1 g2 d2 N (M k) (w.drewN q) hN hr1 hr2).mono fun e w' ⟨h1, p, h2⟩ => ⟨h1, q + p, by rw [h2, World.drewN_drewN]⟩
      clear hr1 hr2
      go_wp2_with fail
      go_region_with ((go_at_call 104; refine (HE.out _).mono ?_; rintro e w' ⟨rfl, q2, rfl⟩))
      all_goals
        go_wp2
        go_roundw
        case rel => exact ⟨k + 1, by omega, by go_num, _, by first | rfl | simp⟩
        case measure => simp [intOf]; omega
    · go_wp2
      go_ret
      exact ⟨rfl, q, rfl⟩
theorem cnt_le {k N : Nat} (hk : k ≤ N) (hN : N ≤ 10) : k * N ≤ 100 := Nat.le_trans (Nat.mul_le_mul hk (Nat.le_refl N)) (Nat.le_trans (Nat.mul_le_mul hN hN) (by decide))
set_option maxHeartbeats 400000 in
theorem markTab (B N : Nat) (M : Nat → Nat → Int) (v : Value) (w : World) (hN : N ≤ 10) (h : TgV w B v N M) (T : Nat) (hT : N * N = T) (hBw : B ≤ w.heap.size) :
    Calls Try.prog 48 #[v, .int .i64 1] w fun e w' => e = .returned (.int .i64 (1 + (T : Int))) ∧ (∃ M', TgV w' B v N M' ∧ ∀ i j, i < N → j < N → M' i j = 1 + ((i * N : Nat) : Int) + (j : Int)) ∧ Below B w w' := by
  rcases h with ⟨rfl, rfl⟩ | ⟨go, cap, g, c, rfl, hcap, hm⟩
  · obtain rfl : T = 0 := by omega
    go_enter Try.func48, Try.ntmps48
    go_wp2
    go_loopw [1, 5] (fun m i wr => m = .int .i64 1 ∧ i = .int .i64 0 ∧ wr = w) (fun _ _ _ => 0)
    case atStart => exact ⟨rfl, rfl, rfl⟩
    case round =>
      obtain ⟨rfl, rfl, rfl⟩ := hrel
      go_wp2
      go_ret
      exact ⟨by rfl, ⟨M, .inl ⟨rfl, rfl⟩, fun i j hi => by omega⟩, Below.refl _ _⟩
  · have HM := Lib.hid hm
    have HT := Lib.hid hT
    have HCAP := Lib.hid hcap
    clear hm hT hcap
    go_enter Try.func48, Try.ntmps48
    go_wp2
    go_loopw [1, 5] (fun m i wr => ∃ (k q : Nat) (M' : Nat → Nat → Int), k ≤ N ∧ Hid (k * N = q) ∧ i = .int .i64 k ∧ m = .int .i64 (1 + (q : Int)) ∧ Hid (MatW wr B N M' go g c) ∧ Hid (∀ i j, i < k → j < N → M' i j = 1 + ((i * N : Nat) : Int) + (j : Int)) ∧ Hid (Below B w wr)) (fun _ i _ => N - (intOf i).toNat)
    case atStart => exact ⟨0, 0, M, Nat.zero_le _, Nat.zero_mul N, rfl, rfl, HM, fun i j hi => absurd hi (Nat.not_lt_zero _), Below.refl _ _⟩
    case round =>
      obtain ⟨k, q, M', hk, HQ, rfl, rfl, HMR, HP, HB⟩ := hrel
      have hq : q ≤ 100 := by rw [← HQ.out]; exact cnt_le hk hN
      by_cases hlt : k < N
      · have hrow := HMR.out.row k hlt
        have hcapk := (HMR.out.hg k hlt).2.2.1
        have HMK := Lib.hid (markRow (g k) (c k) N (1 + (q : Int)) wr hN (fun j hj => ⟨⟨_, (HMR.out.cell k j hlt hj).1⟩, (HMR.out.cell k j hlt hj).2⟩) (by omega) (by omega))
        have HGE := Lib.hid (HMR.out.hg k hlt).1
        obtain ⟨gk, hgk⟩ : ∃ x, g k = x := ⟨_, rfl⟩
        obtain ⟨ck, hck⟩ : ∃ x, c k = x := ⟨_, rfl⟩
        have HGK := Lib.hid hgk
        rw [hgk, hck] at hrow
        rw [hgk, hck] at HMK
        rw [hck] at hcapk
        clear hgk hck
        go_wp2_with fail
        refine HMK.out.mono ?_; rintro e w2 ⟨rfl, hr2, hg2⟩
        have HMR2 := Lib.hid (HMR.out.rowSet hlt (by rw [HGK.out]; exact hg2) (by rw [HGK.out]; exact hr2))
        have HB2 : Hid (Below B w w2) := HB.out.grown hg2 (Nat.le_trans hBw HB.out.size) (fun r e => by cases e; rw [← HGK.out]; exact HGE.out)
        have HP2 : Hid (∀ i j, i < k + 1 → j < N → (fun (a b : Nat) => if a = k then 1 + (q : Int) + (b : Int) else M' a b) i j = 1 + ((i * N : Nat) : Int) + (j : Int)) := fun i j hi hj => by
          dsimp only
          by_cases e : i = k
          · rw [if_pos e, e, HQ.out]
          · rw [if_neg e]; exact HP.out i j (by omega) hj
        have HQ2 : Hid ((k + 1) * N = q + N) := by rw [Hid, Nat.succ_mul, HQ.out]
        clear hr2 hg2 hrow
        go_wp2
        go_roundw
        case rel => exact ⟨k + 1, q + N, _, by omega, HQ2, by go_num, by first | go_num | (congr 1; omega), HMR2, HP2, HB2⟩
        case measure => simp [intOf]; omega
      · obtain rfl : k = N := by omega
        obtain rfl : q = T := by rw [← HQ.out, HT.out]
        go_wp2
        go_ret
        exact ⟨rfl, ⟨M', .inr ⟨go, cap, g, c, rfl, HCAP.out, HMR.out⟩, HP.out⟩, HB.out⟩
set_option maxHeartbeats 400000 in
theorem heldTab (B N : Nat) (M : Nat → Nat → Int) (v : Value) (w : World) (hN : N ≤ 10) (h : TgV w B v N M) (T : Nat) (hT : N * N = T) (hM : ∀ i j, i < N → j < N → M i j = 1 + ((i * N : Nat) : Int) + (j : Int)) :
    Calls Try.prog 49 #[v, .int .i64 1] w fun e w' => e = .returned (.int .i64 (1 + (T : Int))) ∧ w = w' := by
  obtain ⟨a1, c1, rfl, k1⟩ := h.form
  have K1 := Lib.hid k1
  have HT := Lib.hid hT
  have HM := Lib.hid hM
  clear k1 h hT hM
  go_enter Try.func49, Try.ntmps49
  go_wp2
  go_loop [1, 5] (fun m i => ∃ k q : Nat, k ≤ N ∧ Hid (k * N = q) ∧ i = .int .i64 k ∧ m = .int .i64 (1 + (q : Int))) (fun _ i => N - (intOf i).toNat)
  case atStart => exact ⟨0, 0, Nat.zero_le _, Nat.zero_mul N, rfl, rfl⟩
  case round =>
    obtain ⟨k, q, hk, HQ, rfl, rfl⟩ := hrel
    have hq : q ≤ 100 := by rw [← HQ.out]; exact cnt_le hk hN
    by_cases hlt : k < N
    · obtain ⟨go1, g1, d1, rfl, hc1, hr1⟩ := K1.out k hlt
      have HH := Lib.hid (heldRow g1 d1 N (1 + (q : Int)) w hN (fun j hj => ⟨by rw [(hr1 j hj).1, HM.out k j hlt hj, HQ.out], (hr1 j hj).2⟩) (by omega) (by omega))
      clear hr1
      have HQ2 : Hid ((k + 1) * N = q + N) := by rw [Hid, Nat.succ_mul, HQ.out]
      go_wp2_with fail
      refine HH.out.mono ?_; rintro e w' ⟨rfl, rfl⟩
      have hn1 : ¬ (1 + (q : Int) + (N : Int)) < 0 := by omega
      go_wp2
      go_round
      case rel => exact ⟨k + 1, q + N, by omega, HQ2, by go_num, by first | go_num | (congr 1; omega)⟩
      case measure => simp [intOf]; omega
    · obtain rfl : k = N := by omega
      obtain rfl : q = T := by rw [← HQ.out, HT.out]
      go_wp2
      go_ret
      exact ⟨rfl, rfl⟩
theorem tg_is (e : Int) (nb : Nat) (F : List Int) (M : Nat → Nat → Int) : ∃ (N : Nat) (b : Bool), N ≤ 10 ∧ ∀ w B v ok, TgIs e nb F M w B v ok → ok = b ∧ TgV w B v N M := by
  by_cases hp : TgP e nb F M
  · refine ⟨e.toNat, true, by have := diaB_okG hp.1; omega, fun w B v ok h => ?_⟩
    rcases h with ⟨_, rfl, go, cap, g, c, rfl, h1, h2⟩ | ⟨h, _⟩
    · exact ⟨rfl, .inr ⟨go, cap, g, c, rfl, h1, h2⟩⟩
    · exact absurd hp h
  · refine ⟨0, false, Nat.zero_le _, fun w B v ok h => ?_⟩
    rcases h with ⟨h, _⟩ | ⟨_, rfl, rfl⟩
    · exact absurd h hp
    · exact ⟨rfl, .inl ⟨rfl, rfl⟩⟩
end Go.Proofs.Ytkipgeecibimoaa
