/- Are texts waves of as many ticks? On the side of the program, and on the model's. -/
import Derived.Test.YtlobloaabghceaaWaveStr
import Derived.Test.YtlobloaabghceaaLvMath
import Derived.Test.YtlobloaabghceaaIn64
import Derived.LoopTactic
import Derived.Laws.EntriesVeiled
import Derived.Shelf.Abstract
namespace Go.Proofs.Ytlobloaabghceaa
open Go.RowKit Go.Shelf
set_option linter.unusedVariables false

theorem any_hit (p : ByteArray → Bool) (L : List ByteArray) (k : Nat) (h : k < L.length) (hp : p L[k] = true) : L.any p = true := List.any_eq_true.2 ⟨_, List.getElem_mem h, hp⟩
theorem any_miss (p : ByteArray → Bool) (L : List ByteArray) (h : ∀ j (h : j < L.length), p L[j] = false) : L.any p = false := by
  rw [List.any_eq_false]
  intro x hx
  obtain ⟨j, hj, rfl⟩ := List.getElem_of_mem hx
  simp [h j hj]

set_option maxHeartbeats 2000000 in
theorem idxStr (g : Nat) (lb : Array Value) (p : ByteArray → Bool) (eg : ∀ args w, (callFunc g args).run Try.prog w = .ok (.enter g args) w) (b n c : Nat) (L : List ByteArray) (w : World)
    (hp : ∀ (W : World) (x : ByteArray), Below w.heap.size w W → x ∈ L → Calls Try.prog g (#[.string x] ++ lb) W fun e w' => e = .returned (.bool (p x)) ∧ Below w.heap.size w w')
    (hn : n = L.length) (hbig : n ≤ 1000) (hb : b < w.heap.size) (hc : ∀ j (h : j < L.length), w.cell? ⟨b, j, none⟩ = some (.string L[j])) :
    Calls Try.prog 74 #[.slice (some ⟨b, 0, none⟩) n c, .func (.func g) #[] lb] w fun e w' => (∃ r : Int, e = .returned (.int .i64 r) ∧ decide (0 ≤ r) = L.any p) ∧ Below w.heap.size w w' := by
  have HC := Lib.hid hc
  have HN := Lib.hid hn
  clear hc hn
  go_enter Try.func74, Try.ntmps74
  go_wp2
  go_loopw [5, 8] (fun _ s8 wr => ∃ kk : Nat, kk ≤ n ∧ s8 = .int .i64 kk ∧ Hid (Below w.heap.size w wr) ∧ Hid (∀ j (h : j < L.length), j < kk → p L[j] = false)) (fun _ s8 _ => n - (intOf s8).toNat)
  case atStart => exact ⟨0, Nat.zero_le _, rfl, Lib.hid (Below.refl _ w), Lib.hid (fun j _ hj => absurd hj (Nat.not_lt_zero _))⟩
  case round =>
    obtain ⟨kk, hkk, rfl, BW, A⟩ := hrel
    by_cases hlt : kk < n
    · have hltz : (kk : Int) < (n : Int) := by omega
      have hkl : kk < L.length := by rw [← HN.out]; exact hlt
      obtain ⟨y, hy⟩ : ∃ y, L[kk] = y := ⟨_, rfl⟩
      have l2 := (BW.out.cell (p := ⟨b, kk, none⟩) hb).trans (HC.out kk hkl)
      rw [hy] at l2
      have hcall := hp wr y BW.out (by rw [← hy]; exact List.getElem_mem hkl)
      have HY := Lib.hid hy
      clear hy
      cases hq : p y with
      | true =>
        rw [hq] at hcall
        have HQ := Lib.hid hq
        clear hq
        go_wp2_with (go_at_fn g; refine hcall.mono ?_; rintro e w' ⟨rfl, hb'⟩)
        go_ret
        exact ⟨⟨_, rfl, by rw [any_hit p L kk hkl (by rw [HY.out]; exact HQ.out)]; simp⟩, hb'⟩
      | false =>
        rw [hq] at hcall
        have HQ := Lib.hid hq
        clear hq
        go_wp2_with (go_at_fn g; refine hcall.mono ?_; rintro e w' ⟨rfl, hb'⟩)
        have HB' := Lib.hid hb'
        go_roundw
        case measure => simp [intOf]; omega
        case rel =>
          refine ⟨kk + 1, by omega, by go_num, HB', Lib.hid (fun j h hj => ?_)⟩
          by_cases e : j = kk
          · subst e; rw [HY.out]; exact HQ.out
          · exact A.out j h (by omega)
    · have hltz : ¬ (kk : Int) < (n : Int) := by omega
      have HM := Lib.hid (any_miss p L (fun j h => A.out j h (by have := HN.out; omega)))
      go_wp2
      go_ret
      exact ⟨⟨_, rfl, by rw [HM.out]; decide⟩, BW.out⟩
theorem conStr (g : Nat) (lb : Array Value) (p : ByteArray → Bool) (eg : ∀ args w, (callFunc g args).run Try.prog w = .ok (.enter g args) w) (b n c : Nat) (L : List ByteArray) (w : World)
    (hp : ∀ (W : World) (x : ByteArray), Below w.heap.size w W → x ∈ L → Calls Try.prog g (#[.string x] ++ lb) W fun e w' => e = .returned (.bool (p x)) ∧ Below w.heap.size w w')
    (hn : n = L.length) (hbig : n ≤ 1000) (hb : b < w.heap.size) (hc : ∀ j (h : j < L.length), w.cell? ⟨b, j, none⟩ = some (.string L[j])) :
    Calls Try.prog 50 #[.slice (some ⟨b, 0, none⟩) n c, .func (.func g) #[] lb] w fun e w' => e = .returned (.bool (L.any p)) ∧ Below w.heap.size w w' := by
  have HI := Lib.hid (idxStr g lb p eg b n c L w hp hn hbig hb hc)
  clear hp hn hc
  go_enter Try.func50, Try.ntmps50
  go_wp2_with fail
  refine HI.out.mono ?_
  rintro e w' ⟨⟨r, rfl, hr⟩, hb'⟩
  have HR := Lib.hid hr
  clear hr
  go_wp2
  go_ret
  exact ⟨ret_bool (by rw [← HR.out]), hb'⟩
/-- is a text no wave, or not so long? -/
def notWv (s0 x : ByteArray) : Bool := !(waveB x.data.toList && decide (x.size = s0.size))
set_option maxHeartbeats 1000000 in
theorem areCl (B b n c : Nat) (s0 x : ByteArray) (w : World) (hx : x.size ≤ maxLen) (hB : w.cell? ⟨B, 0, none⟩ = some (.slice (some ⟨b, 0, none⟩) n c)) (h1 : 1 ≤ n) (h0 : w.cell? ⟨b, 0, none⟩ = some (.string s0)) (hBl : B < w.heap.size) (hbl : b < w.heap.size) :
    Calls Try.prog 51 (#[.string x] ++ #[.pointer (some ⟨B, 0, none⟩)]) w fun e w' => e = .returned (.bool (notWv s0 x)) ∧ Below w.heap.size w w' := by
  have hln : 0 < n := h1
  have HW := Lib.hid (implIsWave x w hx)
  cases hw : waveB x.data.toList with
  | false =>
    have HV : Hid (notWv s0 x = true) := by unfold notWv; rw [hw]; rfl
    rw [hw] at HW
    clear hw
    go_enter Try.func51, Try.ntmps51
    go_wp2_with fail
    refine HW.out.mono ?_
    rintro e w1 ⟨rfl, b1⟩
    go_wp2
    go_ret
    exact ⟨ret_bool HV.out.symm, b1⟩
  | true =>
    rw [hw] at HW
    by_cases he : x.size = s0.size
    · have HV : Hid (notWv s0 x = false) := by unfold notWv; rw [hw, he]; simp [Hid]
      have hne : ((x.size : Int) != (s0.size : Int)) = false := by simp [he]
      clear hw he
      go_enter Try.func51, Try.ntmps51
      go_wp2_with fail
      refine HW.out.mono ?_
      rintro e w1 ⟨rfl, b1⟩
      have k0 := (b1.cell (p := ⟨B, 0, none⟩) hBl).trans hB
      have k1 := (b1.cell (p := ⟨b, 0, none⟩) hbl).trans h0
      go_wp2
      go_ret
      exact ⟨ret_bool HV.out.symm, b1⟩
    · have HV : Hid (notWv s0 x = true) := by unfold notWv; rw [hw]; simp [Hid, he]
      have hne : ((x.size : Int) != (s0.size : Int)) = true := by simp; omega
      clear hw he
      go_enter Try.func51, Try.ntmps51
      go_wp2_with fail
      refine HW.out.mono ?_
      rintro e w1 ⟨rfl, b1⟩
      have k0 := (b1.cell (p := ⟨B, 0, none⟩) hBl).trans hB
      have k1 := (b1.cell (p := ⟨b, 0, none⟩) hbl).trans h0
      go_wp2
      go_ret
      exact ⟨ret_bool HV.out.symm, b1⟩
/-- are all of them waves, as long as the first one? -/
def anyNot (L : List ByteArray) : Bool := L.any (notWv (L.headD ByteArray.empty))
def areB (L : List ByteArray) : Bool := !(anyNot L)
set_option maxHeartbeats 1000000 in
set_option maxRecDepth 100000 in
theorem areWaves_any (b n c : Nat) (L : List ByteArray) (w : World) (hn : n = L.length) (h1 : 1 ≤ n) (hbig : n ≤ 1000) (hb : b < w.heap.size) (hc : ∀ j (h : j < L.length), w.cell? ⟨b, j, none⟩ = some (.string L[j])) (hL : ∀ x ∈ L, x.size ≤ maxLen) :
    Calls Try.prog 25 #[.slice (some ⟨b, 0, none⟩) n c] w fun e w' => e = .returned (.bool (areB L)) ∧ Below w.heap.size w w' := by
  obtain ⟨w0, hw0⟩ : ∃ w0, w.alloc (.cells #[.slice (some ⟨b, 0, none⟩) n c] 70) = w0 := ⟨_, rfl⟩
  have hB0 : Below w.heap.size w w0 := by rw [← hw0]; exact (Below.refl _ _).alloc (Nat.le_refl _) _
  have hcB : w0.cell? ⟨w.heap.size, 0, none⟩ = some (.slice (some ⟨b, 0, none⟩) n c) := by rw [← hw0]; simp [go_sem]
  have hsz : w.heap.size < w0.heap.size := by rw [← hw0]; simp
  have hhead : ∃ h : 0 < L.length, L.headD ByteArray.empty = L[0] := by
    cases L with
    | nil => simp at hn; omega
    | cons x xs => exact ⟨by simp, rfl⟩
  obtain ⟨h0, hhd⟩ := hhead
  have HCON := Lib.hid (conStr 51 #[.pointer (some ⟨w.heap.size, 0, none⟩)] (notWv (L.headD ByteArray.empty)) (enters_of Try.func51 (by kernel_rfl) rfl) b n c L w0
    (fun W x hbW hx => ((areCl w.heap.size b n c (L.headD ByteArray.empty) x W (hL x hx) ((hbW.cell (p := ⟨w.heap.size, 0, none⟩) hsz).trans hcB) h1 (by rw [hhd]; exact (hbW.cell (p := ⟨b, 0, none⟩) (Nat.lt_trans hb hsz)).trans ((hB0.cell (p := ⟨b, 0, none⟩) hb).trans (hc 0 h0))) (Nat.lt_of_lt_of_le hsz hbW.size) (Nat.lt_of_lt_of_le (Nat.lt_trans hb hsz) hbW.size)).mono fun e w' h => ⟨h.1, hbW.trans (h.2.mono hbW.size)⟩))
    hn hbig (Nat.lt_trans hb hsz) (fun j h => (hB0.cell (p := ⟨b, j, none⟩) hb).trans (hc j h)))
  have HCON : Hid (Calls Try.prog 50 #[.slice (some ⟨b, 0, none⟩) n c, .func (.func 51) #[] #[.pointer (some ⟨w.heap.size, 0, none⟩)]] w0 fun e w' => e = .returned (.bool (anyNot L)) ∧ Below w0.heap.size w0 w') := HCON.out
  have HB0 := Lib.hid hB0
  clear hc hhd hB0 hn hL
  go_enter Try.func25, Try.ntmps25
  go_wp2_with fail
  refine HCON.out.mono ?_
  rintro e w1 ⟨rfl, b1⟩
  go_wp2
  go_ret
  exact ⟨ret_bool rfl, HB0.out.trans (b1.mono HB0.out.size)⟩
def are2B (a b : ByteArray) : Bool := areB [a, b]
def are3B (a b c : ByteArray) : Bool := areB [a, b, c]
theorem are2B_iff (a b : ByteArray) : are2B a b = true ↔ waveB a.data.toList = true ∧ waveB b.data.toList = true ∧ b.size = a.size := by
  simp [are2B, areB, anyNot, notWv]
theorem are3B_iff (a b c : ByteArray) : are3B a b c = true ↔ waveB a.data.toList = true ∧ waveB b.data.toList = true ∧ b.size = a.size ∧ waveB c.data.toList = true ∧ c.size = a.size := by
  simp [are3B, areB, anyNot, notWv, and_assoc]
theorem are2_any (B c : Nat) (a b : ByteArray) (w : World) (ha : a.size ≤ maxLen) (hb : b.size ≤ maxLen) (hB : B < w.heap.size) (c0 : w.cell? ⟨B, 0, none⟩ = some (.string a)) (c1 : w.cell? ⟨B, 1, none⟩ = some (.string b)) :
    Calls Try.prog 25 #[.slice (some ⟨B, 0, none⟩) 2 c] w fun e w' => e = .returned (.bool (are2B a b)) ∧ Below w.heap.size w w' :=
  areWaves_any B 2 c [a, b] w rfl (by omega) (by omega) hB (fun j h => by
    match j, h with
    | 0, _ => exact c0
    | 1, _ => exact c1) (fun x hx => by simp at hx; rcases hx with rfl | rfl <;> assumption)
theorem are3_any (B c : Nat) (a b d : ByteArray) (w : World) (ha : a.size ≤ maxLen) (hb : b.size ≤ maxLen) (hd : d.size ≤ maxLen) (hB : B < w.heap.size) (c0 : w.cell? ⟨B, 0, none⟩ = some (.string a)) (c1 : w.cell? ⟨B, 1, none⟩ = some (.string b)) (c2 : w.cell? ⟨B, 2, none⟩ = some (.string d)) :
    Calls Try.prog 25 #[.slice (some ⟨B, 0, none⟩) 3 c] w fun e w' => e = .returned (.bool (are3B a b d)) ∧ Below w.heap.size w w' :=
  areWaves_any B 3 c [a, b, d] w rfl (by omega) (by omega) hB (fun j h => by
    match j, h with
    | 0, _ => exact c0
    | 1, _ => exact c1
    | 2, _ => exact c2) (fun x hx => by simp at hx; rcases hx with rfl | rfl | rfl <;> assumption)
/-- the model's word for three waves -/
def l7B (a b c : ByteArray) : Bool := (((waveB a.data.toList && waveB b.data.toList) && waveB c.data.toList) && decide (a.size = b.size)) && decide (b.size = c.size)
theorem l7B_are3 (a b c : ByteArray) : l7B a b c = are3B a b c := by
  rw [Bool.eq_iff_iff, are3B_iff]
  simp only [l7B, Bool.and_eq_true, decide_eq_true_eq]
  constructor
  · rintro ⟨⟨⟨⟨x, y⟩, z⟩, e⟩, f⟩; exact ⟨x, y, e.symm, z, by omega⟩
  · rintro ⟨x, y, e, z, f⟩; exact ⟨⟨⟨⟨x, y⟩, z⟩, e.symm⟩, by omega⟩
theorem l7B_are2 (a b : ByteArray) : l7B a b a = are2B a b := by
  rw [Bool.eq_iff_iff, are2B_iff]
  simp only [l7B, Bool.and_eq_true, decide_eq_true_eq]
  constructor
  · rintro ⟨⟨⟨⟨x, y⟩, z⟩, e⟩, f⟩; exact ⟨x, y, f⟩
  · rintro ⟨x, y, e⟩; exact ⟨⟨⟨⟨x, y⟩, x⟩, e.symm⟩, e⟩
set_option maxHeartbeats 1000000 in
theorem l07Three_any (a b c : ByteArray) (w : World) (ha : a.size ≤ maxLen) (hb : b.size ≤ maxLen) (hc : c.size ≤ maxLen) :
    Calls Try.prog 23 #[.string a, .string b, .string c] w fun e w' => e = .returned (.bool (l7B a b c)) ∧ w = w' := by
  have HA := Lib.hid (l01Wave_any a w ha)
  have HB := Lib.hid (l01Wave_any b w hb)
  have HC := Lib.hid (l01Wave_any c w hc)
  have HV : Hid (l7B a b c = ((((waveB a.data.toList && waveB b.data.toList) && waveB c.data.toList) && decide (a.size = b.size)) && decide (b.size = c.size))) := by unfold l7B; simp [Hid]
  cases wa : waveB a.data.toList with
  | false =>
    rw [wa] at HA HV; clear wa
    go_enter Try.func23, Try.ntmps23
    go_wp2_with fail
    refine HA.out.mono ?_; rintro e w' ⟨rfl, rfl⟩
    go_wp2
    go_ret
    exact ⟨ret_bool (by rw [HV.out]; rfl), rfl⟩
  | true =>
    rw [wa] at HA HV; clear wa
    cases wb : waveB b.data.toList with
    | false =>
      rw [wb] at HB HV; clear wb
      go_enter Try.func23, Try.ntmps23
      go_wp2_with fail
      refine HA.out.mono ?_; rintro e w' ⟨rfl, rfl⟩
      go_wp2_with fail
      refine HB.out.mono ?_; rintro e w' ⟨rfl, rfl⟩
      go_wp2
      go_ret
      exact ⟨ret_bool (by rw [HV.out]; rfl), rfl⟩
    | true =>
      rw [wb] at HB HV; clear wb
      cases wc : waveB c.data.toList with
      | false =>
        rw [wc] at HC HV; clear wc
        go_enter Try.func23, Try.ntmps23
        go_wp2_with fail
        refine HA.out.mono ?_; rintro e w' ⟨rfl, rfl⟩
        go_wp2_with fail
        refine HB.out.mono ?_; rintro e w' ⟨rfl, rfl⟩
        go_wp2_with fail
        refine HC.out.mono ?_; rintro e w' ⟨rfl, rfl⟩
        go_wp2
        go_ret
        exact ⟨ret_bool (by rw [HV.out]; rfl), rfl⟩
      | true =>
        rw [wc] at HC HV; clear wc
        obtain ⟨x1, hx1⟩ : ∃ x1, ((a.size : Int) == (b.size : Int)) = x1 := ⟨_, rfl⟩
        obtain ⟨x2, hx2⟩ : ∃ x2, ((b.size : Int) == (c.size : Int)) = x2 := ⟨_, rfl⟩
        have HE : Hid (l7B a b c = (x1 && x2)) := by
          rw [← hx1, ← hx2]
          have := HV.out
          rw [this]
          simp only [Hid, Bool.true_and]
          congr 1
          · rw [Bool.eq_iff_iff]; simp; omega
          · rw [Bool.eq_iff_iff]; simp; omega
        cases x1 <;> cases x2
        all_goals
          go_enter Try.func23, Try.ntmps23
          go_wp2_with fail
          refine HA.out.mono ?_; rintro e w' ⟨rfl, rfl⟩
          go_wp2_with fail
          refine HB.out.mono ?_; rintro e w' ⟨rfl, rfl⟩
          go_wp2_with fail
          refine HC.out.mono ?_; rintro e w' ⟨rfl, rfl⟩
          go_wp2
          go_ret
          exact ⟨ret_bool (by rw [HE.out]; rfl), rfl⟩
end Go.Proofs.Ytlobloaabghceaa
