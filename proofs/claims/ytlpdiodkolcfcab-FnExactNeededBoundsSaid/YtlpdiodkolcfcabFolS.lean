/- FollowsFrom on both sides. -/
import Derived.Test.YtlpdiodkolcfcabGapI
namespace Go.Proofs.Ytlpdiodkolcfcab
open Go.RowKit
set_option linter.unusedVariables false

def FolP (e : Int) (nb : Nat) (F : List Int) (M : Nat → Nat → Int) (x y z : Int) : Prop := diaB e nb F = true ∧ BOk e x y z ∧ (∀ a, a < e.toNat → 0 ≤ M a a) ∧ M x.toNat y.toNat ≤ z
def FolM (e : Int) (nb : Nat) (F : List Int) (x y z : Int) (M : Nat → Nat → Int) : Prop := diaB e nb F = true → BOk e x y z → Sound (keptB F [] nb) e.toNat M ∧ Comp (keptB F [] nb) e.toNat e.toNat M
/-- what follows is told by the matrix -/
def FolT (bs : List Bd) (n : Nat) (x y : Nat) (z : Int) (w : World) (r : Ending) (w' : World) : Prop :=
  Below w.heap.size w w' ∧ ∃ (M : Nat → Nat → Int) (ok : Bool), r = .returned (.bool ok) ∧ Sound bs n M ∧ Comp bs n n M ∧ (ok = true ↔ (∀ a, a < n → 0 ≤ M a a) ∧ M x y ≤ z)
set_option maxHeartbeats 1000000 in
set_option maxRecDepth 100000 in
theorem follows_any (p B n nb capb wn wcap : Nat) (a wa : Option Addr) (F Wl : List Int) (x y : Nat) (z : Int) (w : World) (hp : At2 w p (.int .i64 (n : Int)) (.slice a nb capb)) (hr : Recs w B (.slice a nb capb) nb F) (hF : FsIn F n nb) (hn1 : 1 ≤ n) (hn : n ≤ 10) (hnb : nb ≤ 24)
    (hW : RowAt w wa Wl) (hWn : wn = Wl.length) (hWl : Wl.length ≤ 1000) (hx : x < n) (hy : y < n) :
    Calls Try.prog 70 #[.pointer (some ⟨p, 0, none⟩), .slice wa wn wcap, .agg #[.int .i64 (x : Int), .int .i64 (y : Int), .int .i64 z]] w fun r w' => FolT (keptB F Wl nb) n x y z w r w' := by
  obtain ⟨w0, hw0⟩ : ∃ w0, w.alloc (.cells #[.int .i64 (x : Int), .int .i64 (y : Int), .int .i64 z] 50) = w0 := ⟨_, rfl⟩
  have hb0 : Below w.heap.size w w0 := by rw [← hw0]; exact (Below.refl _ _).alloc (Nat.le_refl _) _
  have HT := Lib.hid (tight_any p B n nb capb wn wcap a wa F Wl w0 (hp.below hb0 hp.lt) (hr.keep hb0 (Nat.le_refl _)) hF hn1 hn hnb (hW.keep hb0) hWn hWl)
  have s0 : w0.cell? ⟨w.heap.size, 0, none⟩ = some (.int .i64 (x : Int)) := by rw [← hw0]; simp [go_sem]
  have s1 : w0.cell? ⟨w.heap.size, 1, none⟩ = some (.int .i64 (y : Int)) := by rw [← hw0]; simp [go_sem]
  have s2 : w0.cell? ⟨w.heap.size, 2, none⟩ = some (.int .i64 z) := by rw [← hw0]; simp [go_sem]
  have hs : w.heap.size < w0.heap.size := by rw [← hw0]; simp
  have HB0 := Lib.hid hb0
  have HS := Lib.hid (And.intro s0 (And.intro s1 s2))
  clear hp hr hF hW hWn hWl hb0 s0 s1 s2
  go_enter Try.func70, Try.ntmps70
  go_wp2_with fail
  refine HT.out.mono ?_; rintro r w3 ⟨go, cap2, g, c, M, ok, rfl, hcap, hmat, hsd, hcp, hok, hb3⟩
  clear hw0
  have HB3 := Lib.hid (HB0.out.trans (hb3.mono HB0.out.size))
  have s0 := (hb3.cell (p := ⟨w.heap.size, 0, none⟩) hs).trans HS.out.1
  have s1 := (hb3.cell (p := ⟨w.heap.size, 1, none⟩) hs).trans HS.out.2.1
  have s2 := (hb3.cell (p := ⟨w.heap.size, 2, none⟩) hs).trans HS.out.2.2
  have HSC := Lib.hid (And.intro hsd (And.intro hcp hok))
  have r0 := hmat.row x hx
  obtain ⟨z0, -⟩ := hmat.cell x y hx hy
  have g0 := (hmat.hg x hx).2.2.1
  obtain ⟨v, hv⟩ : ∃ v, M x y = v := ⟨_, rfl⟩
  rw [hv] at z0
  have HV := Lib.hid hv
  clear hmat hsd hcp hok hb3 hv
  cases ok with
  | false =>
    go_wp2
    go_region
    go_wp2
    go_ret
    exact ⟨HB3.out.drew, M, false, rfl, HSC.out.1, HSC.out.2.1, ⟨fun h => (by cases h), fun h => by have := HSC.out.2.2.2 h.1; cases this⟩⟩
  | true =>
    by_cases hle : v ≤ z
    · have q0 : decide (v ≤ z) = true := decide_eq_true hle
      have HLE := Lib.hid hle
      clear hle
      go_wp2
      go_region
      go_wp2
      go_ret
      exact ⟨HB3.out.drew, M, true, rfl, HSC.out.1, HSC.out.2.1, ⟨fun _ => ⟨(by first | exact HSC.out.2.2.1 rfl | exact HSC.out.2.2.1 trivial), (by have h3 := HLE.out; rw [HV.out]; omega)⟩, fun _ => rfl⟩⟩
    · have q0 : decide (v ≤ z) = false := decide_eq_false hle
      have HLE := Lib.hid hle
      clear hle
      go_wp2
      go_region
      go_wp2
      go_ret
      exact ⟨HB3.out.drew, M, false, rfl, HSC.out.1, HSC.out.2.1, ⟨fun h => (by cases h), fun h => (by have h2 := h.2; have h3 := HLE.out; rw [HV.out] at h2; exfalso; omega)⟩⟩
def FolR (e : Int) (nb : Nat) (F : List Int) (x y z : Int) (w : World) (r : Ending) (w' : World) : Prop :=
  Below w.heap.size w w' ∧ ∃ (M : Nat → Nat → Int) (ok : Bool), r = .returned (.bool ok) ∧ FolM e nb F x y z M ∧ (ok = true ↔ FolP e nb F M x y z)
theorem fol_none {e : Int} {nb : Nat} {F : List Int} {M : Nat → Nat → Int} {x y z : Int} {D : Nat → Trails} (hd : diaB e nb F = true) (hL : Least (keptB F [] nb) e.toNat D) (hM : FolM e nb F x y z M) :
    (GI D x y = none → ¬ FolP e nb F M x y z) ∧ (∀ p, GI D x y = some p → BOk e x y z → (FolP e nb F M x y z ↔ p.2 ≤ z)) := by
  obtain ⟨he1, he2, hnb, -⟩ := diaB_okG hd
  obtain ⟨n, rfl⟩ : ∃ n : Nat, e = (n : Int) := ⟨e.toNat, by omega⟩
  have hfs := keptB_in (W := []) (dia_fs hd)
  have en : ((n : Int)).toNat = n := by simp
  rw [en] at hL
  have tab : BOk (n : Int) x y z → (∀ a, a < n → 0 ≤ M a a) ∧ ∀ a b, a < n → b < n → (∀ c s, D a b = some (c, s) → M a b = s ∧ s ≤ 10000 ∧ -10000 ≤ s) ∧ (D a b = none → M a b = 1000000) := fun h1 => by
    obtain ⟨q1, q2⟩ := hM hd h1
    rw [en] at q1 q2
    exact least_table hfs (by omega) hL q1 q2
  constructor
  · rintro hg ⟨-, hb, -, hle⟩
    obtain ⟨d0, tb⟩ := tab hb
    obtain ⟨k1, k2, k3, k4, k5, k6, k7⟩ := hb
    obtain ⟨i, rfl⟩ : ∃ i : Nat, x = (i : Int) := ⟨x.toNat, by omega⟩
    obtain ⟨j, rfl⟩ : ∃ j : Nat, y = (j : Int) := ⟨y.toNat, by omega⟩
    rw [GI_nat] at hg
    have hn : D i j = none := by cases hD : D i j with
      | none => rfl
      | some v => rw [hD] at hg; cases hg
    have := (tb i j (by omega) (by omega)).2 hn
    simp at hle
    omega
  · intro p hp hb
    obtain ⟨d0, tb⟩ := tab hb
    obtain ⟨k1, k2, k3, k4, k5, k6, k7⟩ := id hb
    obtain ⟨i, rfl⟩ : ∃ i : Nat, x = (i : Int) := ⟨x.toNat, by omega⟩
    obtain ⟨j, rfl⟩ : ∃ j : Nat, y = (j : Int) := ⟨y.toNat, by omega⟩
    rw [GI_nat] at hp
    obtain ⟨v, hv, rfl⟩ := Option.map_eq_some_iff.1 hp
    have e1 := ((tb i j (by omega) (by omega)).1 v.1 v.2 hv).1
    constructor
    · rintro ⟨-, -, -, h⟩
      simpa [e1] using h
    · intro h
      exact ⟨hd, hb, fun a ha => d0 a (by simpa using ha), by simpa [e1] using h⟩
theorem fol_nil {e : Int} {nb : Nat} {F : List Int} {M : Nat → Nat → Int} {x y z : Int} (hn : diaB e nb F = true → NegRing (keptB F [] nb) e.toNat) (hM : FolM e nb F x y z M) : ¬ FolP e nb F M x y z := by
  rintro ⟨hd, h1, h3, -⟩
  obtain ⟨n, rfl⟩ : ∃ n : Nat, e = (n : Int) := ⟨e.toNat, by have := (diaB_okG hd).1; omega⟩
  obtain ⟨q1, q2⟩ := hM hd h1
  have hr := hn hd
  rw [show ((n : Int)).toNat = n by simp] at q1 q2 hr h3
  obtain ⟨a, ha, hlt⟩ := ring_table (keptB_in (W := []) (dia_fs hd)) hr q2
  have := h3 a ha
  omega
set_option maxHeartbeats 2000000 in
set_option maxRecDepth 100000 in
theorem implFol (B : Nat) (e : Int) (a : Option Addr) (nb cap : Nat) (F : List Int) (x y z : Int) (M : Nat → Nat → Int) (w : World) (hr : Recs w B (.slice a nb cap) nb F) (hl : nb ≤ 1048576) (wx : (Lit.int .i64 x).wf = true) (wy : (Lit.int .i64 y).wf = true) (hM : FolM e nb F x y z M) :
    Calls Try.prog 72 #[.agg #[.int .i64 e, .slice a nb cap], .agg #[.int .i64 x, .int .i64 y, .int .i64 z]] w fun r w' => Below w.heap.size w w' ∧ ∃ ok : Bool, r = .returned (.bool ok) ∧ (ok = true ↔ FolP e nb F M x y z) := by
  obtain ⟨w0, hw0⟩ : ∃ w0, (w.alloc (.cells #[.int .i64 e, .slice a nb cap] 32)).alloc (.cells #[.int .i64 x, .int .i64 y, .int .i64 z] 50) = w0 := ⟨_, rfl⟩
  have hba := (Below.refl w.heap.size w).alloc (Nat.le_refl _) (.cells #[.int .i64 e, .slice a nb cap] 32)
  have hb0 : Below w.heap.size w w0 := by rw [← hw0]; exact hba.alloc (by simp) _
  have HP : Hid (At2 w0 w.heap.size (.int .i64 e) (.slice a nb cap)) := by rw [← hw0]; exact (At2.new w _ _ _).below ((Below.refl _ _).alloc (Nat.le_refl _) _) (by simp)
  have HR : Hid (Recs w0 B (.slice a nb cap) nb F) := hr.keep hb0 (Nat.le_refl _)
  have s0 : w0.cell? ⟨w.heap.size + 1, 0, none⟩ = some (.int .i64 x) := by rw [← hw0]; simp [go_sem]
  have s1 : w0.cell? ⟨w.heap.size + 1, 1, none⟩ = some (.int .i64 y) := by rw [← hw0]; simp [go_sem]
  have s2 : w0.cell? ⟨w.heap.size + 1, 2, none⟩ = some (.int .i64 z) := by rw [← hw0]; simp [go_sem]
  have hs : w.heap.size + 1 < w0.heap.size := by rw [← hw0]; simp
  have HB0 := Lib.hid hb0
  have HS := Lib.hid (And.intro s0 (And.intro s1 s2))
  have HV := Lib.hid (difs_any B e a nb cap F w0 HR.out hl)
  obtain ⟨c0, c1, -, -⟩ := HP.out
  have HM := Lib.hid hM
  clear hr hb0 hba hM s0 s1 s2
  go_enter Try.func72, Try.ntmps72
  go_wp2_with fail
  refine HV.out.mono ?_; rintro r w1 ⟨b1, ⟨hd, bm, m, D, rfl, hb, ht, hls, hout⟩ | ⟨hneg, rfl⟩⟩
  · have HB1 := Lib.hid b1
    have s0 := (b1.cell (p := ⟨w.heap.size + 1, 0, none⟩) hs).trans HS.out.1
    have s1 := (b1.cell (p := ⟨w.heap.size + 1, 1, none⟩) hs).trans HS.out.2.1
    have s2 := (b1.cell (p := ⟨w.heap.size + 1, 2, none⟩) hs).trans HS.out.2.2
    have HK := Lib.hid (fol_none hd hls HM.out)
    have HE := Lib.hid (diaB_okG hd)
    obtain ⟨U, hU⟩ : ∃ U, GI D x y = U := ⟨_, rfl⟩
    have HQ := Lib.hid (most_any bm m D x y w1 ht wx wy)
    rw [hU] at HQ HK
    clear hU b1 c0 c1 hd hb ht hls hout hw0
    go_wp2_with fail
    refine HQ.out.mono ?_; rintro r w2 ⟨rfl, b2⟩
    have hb2 := HB1.out.trans (b2.mono HB1.out.size)
    have HB2 := Lib.hid hb2
    obtain ⟨c0, c1, -, -⟩ := HP.out.below hb2 HP.out.lt
    clear s0 s1 s2
    have s0 := (hb2.cell (p := ⟨w.heap.size + 1, 0, none⟩) hs).trans HS.out.1
    have s1 := (hb2.cell (p := ⟨w.heap.size + 1, 1, none⟩) hs).trans HS.out.2.1
    have s2 := (hb2.cell (p := ⟨w.heap.size + 1, 2, none⟩) hs).trans HS.out.2.2
    clear b2 hb2
    cases U with
    | none =>
      go_wp2
      go_ret
      exact ⟨HB0.out.trans (HB2.out.mono HB0.out.size), false, rfl, ⟨fun h => (by cases h), fun h => absurd h (HK.out.1 (by first | rfl | trivial))⟩⟩
    | some p =>
      by_cases hbk : BOk e x y z
      · have HKB := Lib.hid (HK.out.2 p rfl hbk)
        go_wp2_with fail
        refine (isValid_t e x y z w2 HE.out.1 HE.out.2.1 hbk).mono ?_; rintro r w3 ⟨rfl, b3⟩
        have hb3 := HB2.out.trans (b3.mono HB2.out.size)
        have HB3 := Lib.hid hb3
        have t2 := (hb3.cell (p := ⟨w.heap.size + 1, 2, none⟩) hs).trans HS.out.2.2
        clear b3 hb3 HK hbk s0 s1 s2
        by_cases hle : p.2 ≤ z
        · have q0 : decide (p.2 ≤ z) = true := decide_eq_true hle
          have HX := Lib.hid (HKB.out.2 hle)
          clear hle HKB
          go_wp2
          go_ret
          exact ⟨HB0.out.trans (HB3.out.mono HB0.out.size), _, rfl, ⟨fun _ => HX.out, fun _ => by simp⟩⟩
        · have q0 : decide (p.2 ≤ z) = false := decide_eq_false hle
          have HX := Lib.hid (fun h => hle (HKB.out.1 h))
          clear hle HKB
          go_wp2
          go_ret
          exact ⟨HB0.out.trans (HB3.out.mono HB0.out.size), _, rfl, ⟨fun h => (by exfalso; simp at q0 h <;> omega), fun h => absurd h HX.out⟩⟩
      · have HNO : Hid (¬ FolP e nb F M x y z) := fun h => hbk h.2.1
        go_wp2_with fail
        refine (isValid_f e x y z w2 HE.out.1 HE.out.2.1 hbk).mono ?_; rintro r w3 ⟨rfl, b3⟩
        have HB3 := Lib.hid (HB2.out.trans (b3.mono HB2.out.size))
        clear b3 HK hbk
        go_wp2
        go_ret
        exact ⟨HB0.out.trans (HB3.out.mono HB0.out.size), false, rfl, ⟨fun h => (by cases h), fun h => absurd h HNO.out⟩⟩
  · have HB1 := Lib.hid b1
    have s0 := (b1.cell (p := ⟨w.heap.size + 1, 0, none⟩) hs).trans HS.out.1
    have s1 := (b1.cell (p := ⟨w.heap.size + 1, 1, none⟩) hs).trans HS.out.2.1
    have s2 := (b1.cell (p := ⟨w.heap.size + 1, 2, none⟩) hs).trans HS.out.2.2
    have HNO := Lib.hid (fol_nil hneg HM.out)
    clear b1 hneg hw0
    go_wp2_with fail
    refine (most_nil x y w1 wx wy).mono ?_; rintro r w2 ⟨rfl, b2⟩
    have HB2 := Lib.hid (HB1.out.trans (b2.mono HB1.out.size))
    clear b2
    go_wp2
    go_ret
    exact ⟨HB0.out.trans (HB2.out.mono HB0.out.size), false, rfl, ⟨fun h => (by cases h), fun h => absurd h HNO.out⟩⟩
end Go.Proofs.Ytlpdiodkolcfcab
