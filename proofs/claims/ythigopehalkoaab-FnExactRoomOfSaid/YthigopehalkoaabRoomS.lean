/- RoomOf on both sides. -/
import Derived.Test.YthigopehalkoaabGapI
namespace Go.Proofs.Ythigopehalkoaab
open Go.RowKit
set_option linter.unusedVariables false

/-- the bound is one of a diagram with a timing -/
def RoomP (e : Int) (nb : Nat) (F : List Int) (M : Nat → Nat → Int) (b : Int) : Prop := diaB e nb F = true ∧ (0 ≤ b ∧ b ≤ (nb : Int) - 1) ∧ ∀ a, a < e.toNat → 0 ≤ M a a
def roomX (F : List Int) (M : Nat → Nat → Int) (k : Nat) : Int := if M (bdAt F k).t (bdAt F k).f = 1000000 then 1000000 else wrap64 ((bdAt F k).m + M (bdAt F k).t (bdAt F k).f)
def RoomIs (e : Int) (nb : Nat) (F : List Int) (M : Nat → Nat → Int) (b x : Int) (ok : Bool) : Prop :=
  (RoomP e nb F M b → x = roomX F M b.toNat ∧ ok = true) ∧ (¬ RoomP e nb F M b → x = 0 ∧ ok = false)
theorem RoomIs.one {e : Int} {nb : Nat} {F : List Int} {M : Nat → Nat → Int} {b x x' : Int} {ok ok' : Bool} (h : RoomIs e nb F M b x ok) (h' : RoomIs e nb F M b x' ok') : x' = x ∧ ok' = ok := by
  by_cases hp : RoomP e nb F M b
  · obtain ⟨rfl, rfl⟩ := h.1 hp
    exact h'.1 hp
  · obtain ⟨rfl, rfl⟩ := h.2 hp
    exact h'.2 hp
def RoomM (e : Int) (nb : Nat) (F : List Int) (b : Int) (M : Nat → Nat → Int) : Prop := diaB e nb F = true → (0 ≤ b ∧ b ≤ (nb : Int) - 1) → Sound (keptB F [] nb) e.toNat M ∧ Comp (keptB F [] nb) e.toNat e.toNat M
def RoomR (e : Int) (nb : Nat) (F : List Int) (b : Int) (w : World) (r : Ending) (w' : World) : Prop :=
  Below w.heap.size w w' ∧ ∃ (M : Nat → Nat → Int) (x : Int) (ok : Bool), r = .returned (.tuple #[.int .i64 x, .bool ok]) ∧ RoomM e nb F b M ∧ RoomIs e nb F M b x ok
/-- the bound's numbers -/
theorem bd_of {n nb k : Nat} {F : List Int} (h : FsIn F n nb) (hk : k < nb) : ∃ (x y : Nat) (z : Int), bdAt F k = ⟨x, y, z⟩ ∧ F.getD (k * 3) 0 = (x : Int) ∧ F.getD (k * 3 + 1) 0 = (y : Int) ∧ F.getD (k * 3 + 2) 0 = z ∧ x < n ∧ y < n := by
  obtain ⟨h1, h2, _⟩ := h k hk
  refine ⟨(F.getD (k * 3) 0).toNat, (F.getD (k * 3 + 1) 0).toNat, _, rfl, by omega, by omega, rfl, by omega, by omega⟩

set_option maxHeartbeats 2000000 in
set_option maxRecDepth 100000 in
theorem specRoom (B : Nat) (e : Int) (a : Option Addr) (nb cap : Nat) (F : List Int) (b : Int) (w : World) (hr : Recs w B (.slice a nb cap) nb F) (hl : nb ≤ 1048576) :
    Calls Try.prog 33 #[.agg #[.int .i64 e, .slice a nb cap], .int .i64 b] w fun r w' => RoomR e nb F b w r w' := by
  have hb0 : Below w.heap.size w (w.alloc (.cells #[.int .i64 e, .slice a nb cap] 31)) := (Below.refl _ _).alloc (Nat.le_refl _) _
  obtain ⟨w0, hw0⟩ : ∃ w0, w.alloc (.cells #[.int .i64 e, .slice a nb cap] 31) = w0 := ⟨_, rfl⟩
  have HP : Hid (At2 w0 w.heap.size (.int .i64 e) (.slice a nb cap)) := by rw [← hw0]; exact At2.new w _ _ _
  have HR : Hid (Recs w0 B (.slice a nb cap) nb F) := by rw [← hw0]; exact hr.keep hb0 (Nat.le_refl _)
  rw [hw0] at hb0
  have HB0 := Lib.hid hb0
  have HI := Lib.hid (l04Is_any w.heap.size B e a nb cap F w0 HP.out HR.out hl)
  clear hr hb0
  cases hd : diaB e nb F with
  | false =>
    have HNO : Hid (∀ M, ¬ RoomP e nb F M b) := fun M h => by rw [h.1] at hd; cases hd
    have HMO : Hid (∀ M, RoomM e nb F b M) := fun M h => by rw [h] at hd; cases hd
    rw [hd] at HI
    clear hd
    go_enter Try.func33, Try.ntmps33
    go_wp2_with fail
    refine HI.out.mono ?_; rintro r w1 ⟨rfl, b1⟩
    have HB1 := Lib.hid (HB0.out.trans (b1.mono HB0.out.size))
    clear b1
    go_wp2
    go_ret2
    exact ⟨HB1.out, fun _ _ => 0, 0, false, rfl, HMO.out _, ⟨fun h => absurd h (HNO.out _), fun _ => ⟨rfl, rfl⟩⟩⟩
  | true =>
    rw [hd] at HI
    obtain ⟨he1, he2, hnb, -⟩ := diaB_okG hd
    obtain ⟨n, rfl⟩ : ∃ n : Nat, e = (n : Int) := ⟨e.toNat, by omega⟩
    have wr1 : IntKind.i64.wrap ((nb : Int) - 1) = (nb : Int) - 1 := IntWalk.i64_in _ (by omega)
    have wr2 : wrap64 ((nb : Int) - 1) = (nb : Int) - 1 := by unfold wrap64; omega
    have HFS := Lib.hid (dia_fs hd)
    have HD := Lib.hid hd
    clear hd
    by_cases hbk : 0 ≤ b ∧ b ≤ (nb : Int) - 1
    · obtain ⟨k, rfl⟩ : ∃ k : Nat, b = (k : Int) := ⟨b.toNat, by omega⟩
      have hkb : k < nb := by omega
      obtain ⟨x, y, z, hbd, hx, hy, hz, hxn, hyn⟩ := bd_of HFS.out hkb
      have HX := Lib.hid (And.intro hx (And.intro hy hz))
      have HBD := Lib.hid hbd
      clear hbd hx hy hz
      go_enter Try.func33, Try.ntmps33
      go_wp2_with fail
      refine HI.out.mono ?_; rintro r w1 ⟨rfl, b1⟩
      have HB1 := Lib.hid b1
      obtain ⟨c0, c1, -, -⟩ := HP.out.below b1 HP.out.lt
      clear b1
      go_wp2_with fail
      refine (l00In_t _ _ _ _ hbk.1 hbk.2).mono ?_; rintro r w' ⟨rfl, rfl⟩
      go_wp2_with fail
      have hb2' : Below w0.heap.size w0 (w1.alloc (.cells #[] 2)) := HB1.out.alloc HB1.out.size _
      have HB2a := Lib.hid hb2'
      have HTG := Lib.hid (tight_any w.heap.size B n nb cap 0 0 a (some ⟨w1.heap.size, 0, none⟩) F [] (w1.alloc (.cells #[] 2)) (HP.out.below hb2' HP.out.lt) (HR.out.keep hb2' (Nat.le_refl _)) HFS.out (by omega) (by omega) hnb (fun k hk => by simp at hk) rfl (by simp))
      clear hb2' c0 c1
      refine HTG.out.mono ?_; rintro r w3 ⟨go, cap2, g, c, M, ok, rfl, hcap, hmat, hsd, hcp, hok, hb3⟩
      have hb03 := HB2a.out.trans (hb3.mono HB2a.out.size)
      have HB3 := Lib.hid (HB0.out.trans (hb03.mono HB0.out.size))
      have HGM : Hid (RoomM (n : Int) nb F (k : Int) M) := fun _ _ => ⟨hsd, hcp⟩
      cases ok with
      | false =>
        have HNO : Hid (¬ RoomP (n : Int) nb F M (k : Int)) := fun h => by have := hok.2 h.2.2; cases this
        clear hmat hsd hcp hok hb3 hb03
        go_wp2
        go_ret2
        exact ⟨HB3.out, M, 0, false, rfl, HGM.out, ⟨fun h => absurd h HNO.out, fun _ => ⟨rfl, rfl⟩⟩⟩
      | true =>
        have HYE : Hid (RoomP (n : Int) nb F M (k : Int)) := ⟨HD.out, hbk, fun a ha => hok.1 rfl a (by simpa using ha)⟩
        have r0 := hmat.row y hyn
        obtain ⟨z0, -⟩ := hmat.cell y x hyn hxn
        have g0 := (hmat.hg y hyn).2.2.1
        obtain ⟨v, hv⟩ : ∃ v, M y x = v := ⟨_, rfl⟩
        rw [hv] at z0
        have HV : Hid (roomX F M k = if v = 1000000 then 1000000 else wrap64 (z + v)) := by
          rw [Hid, roomX, HBD.out]; dsimp only; rw [hv]
        obtain ⟨gb, xb, yb, zb, ha, -, -, ⟨e1, e2, e3⟩, k0, k1, k2⟩ := (HR.out.keep hb03 (Nat.le_refl _)).at k hkb
        rw [HX.out.1] at e1
        rw [HX.out.2.1] at e2
        rw [HX.out.2.2] at e3
        subst e1 e2 e3 ha
        obtain ⟨c0, c1, -, -⟩ := HP.out.below hb03 HP.out.lt
        obtain ⟨W4, hW4⟩ : ∃ W4, w3.alloc (.cells #[.int .i64 (x : Int), .int .i64 (y : Int), .int .i64 z] 50) = W4 := ⟨_, rfl⟩
        have HB4 : Hid (Below w.heap.size w W4) := by rw [Hid, ← hW4]; exact HB3.out.alloc HB3.out.size _
        have r0' : W4.cell? ⟨go, y, none⟩ = some (.slice (some ⟨g y, 0, none⟩) n (c y)) := by rw [← hW4]; exact cell_alloc_kept r0
        have z0' : W4.cell? ⟨g y, x, none⟩ = some (.int .i64 v) := by rw [← hW4]; exact cell_alloc_kept z0
        have s0 : W4.cell? ⟨w3.heap.size, 0, none⟩ = some (.int .i64 (x : Int)) := by rw [← hW4]; simp [go_sem]
        have s1 : W4.cell? ⟨w3.heap.size, 1, none⟩ = some (.int .i64 (y : Int)) := by rw [← hW4]; simp [go_sem]
        have s2 : W4.cell? ⟨w3.heap.size, 2, none⟩ = some (.int .i64 z) := by rw [← hW4]; simp [go_sem]
        clear hmat hsd hcp hok hb3 hb03 hv r0 z0
        by_cases hv0 : v = 1000000
        · have q0 : (v == 1000000) = true := by simp [hv0]
          have HE : Hid (roomX F M k = 1000000) := by rw [Hid, HV.out, if_pos hv0]
          clear hv0
          go_wp2
          clear hW4
          go_region
          go_wp2
          go_ret2
          exact ⟨HB4.out.drew, M, _, true, rfl, HGM.out, ⟨fun _ => ⟨by simp [HE.out], rfl⟩, fun h => absurd HYE.out h⟩⟩
        · have q0 : (v == 1000000) = false := by simp [hv0]
          have HE : Hid (roomX F M k = wrap64 (z + v)) := by rw [Hid, HV.out, if_neg hv0]
          clear hv0
          go_wp2
          clear hW4
          go_region
          go_wp2
          go_region
          go_wp2
          go_ret2
          exact ⟨HB4.out.drew.drew, M, _, true, rfl, HGM.out, ⟨fun _ => ⟨by simp [HE.out], rfl⟩, fun h => absurd HYE.out h⟩⟩
    · have HNO : Hid (∀ M, ¬ RoomP (n : Int) nb F M b) := fun M h => hbk h.2.1
      have HMO : Hid (∀ M, RoomM (n : Int) nb F b M) := fun M _ h => absurd h hbk
      go_enter Try.func33, Try.ntmps33
      go_wp2_with fail
      refine HI.out.mono ?_; rintro r w1 ⟨rfl, b1⟩
      have HB1 := Lib.hid (HB0.out.trans (b1.mono HB0.out.size))
      obtain ⟨c0, c1, -, -⟩ := HP.out.below b1 HP.out.lt
      clear b1
      go_wp2_with fail
      refine (l00In_f _ _ _ _ (by omega)).mono ?_; rintro r w' ⟨rfl, rfl⟩
      go_wp2
      go_ret2
      exact ⟨HB1.out, fun _ _ => 0, 0, false, rfl, HMO.out _, ⟨fun h => absurd h (HNO.out _), fun _ => ⟨rfl, rfl⟩⟩⟩

set_option maxHeartbeats 2000000 in
set_option maxRecDepth 100000 in
theorem implRoom (B : Nat) (e : Int) (a : Option Addr) (nb cap : Nat) (F : List Int) (b : Int) (M : Nat → Nat → Int) (w : World) (hr : Recs w B (.slice a nb cap) nb F) (hl : nb ≤ 1048576) (hM : RoomM e nb F b M) :
    Calls Try.prog 34 #[.agg #[.int .i64 e, .slice a nb cap], .int .i64 b] w fun r w' => Below w.heap.size w w' ∧ ∃ (x : Int) (ok : Bool), r = .returned (.tuple #[.int .i64 x, .bool ok]) ∧ RoomIs e nb F M b x ok := by
  have hb0 : Below w.heap.size w (w.alloc (.cells #[.int .i64 e, .slice a nb cap] 31)) := (Below.refl _ _).alloc (Nat.le_refl _) _
  obtain ⟨w0, hw0⟩ : ∃ w0, w.alloc (.cells #[.int .i64 e, .slice a nb cap] 31) = w0 := ⟨_, rfl⟩
  have HP : Hid (At2 w0 w.heap.size (.int .i64 e) (.slice a nb cap)) := by rw [← hw0]; exact At2.new w _ _ _
  have HR : Hid (Recs w0 B (.slice a nb cap) nb F) := by rw [← hw0]; exact hr.keep hb0 (Nat.le_refl _)
  rw [hw0] at hb0
  have HB0 := Lib.hid hb0
  have HV := Lib.hid (difs_any B e a nb cap F w0 HR.out hl)
  obtain ⟨c0, c1, -, -⟩ := HP.out
  have HM := Lib.hid hM
  clear hr hb0 hM
  go_enter Try.func34, Try.ntmps34
  go_wp2_with fail
  refine HV.out.mono ?_; rintro r w1 ⟨b1, ⟨hd, bm, m, D, rfl, hb, ht, hls, hout⟩ | ⟨hneg, rfl⟩⟩
  · obtain ⟨he1, he2, hnb, -⟩ := diaB_okG hd
    obtain ⟨n, rfl⟩ : ∃ n : Nat, e = (n : Int) := ⟨e.toNat, by omega⟩
    have wr1 : IntKind.i64.wrap ((nb : Int) - 1) = (nb : Int) - 1 := IntWalk.i64_in _ (by omega)
    have wr2 : wrap64 ((nb : Int) - 1) = (nb : Int) - 1 := by unfold wrap64; omega
    have HFS := Lib.hid (dia_fs hd)
    have HB1 := Lib.hid (HB0.out.trans (b1.mono HB0.out.size))
    have HB1' := Lib.hid b1
    have HT := Lib.hid ht
    have HD := Lib.hid hd
    have HLS : Hid (Least (keptB F [] nb) n D) := by
      have h := hls
      rw [show ((n : Int)).toNat = n by simp] at h
      exact h
    clear c0 c1
    obtain ⟨c0, c1, -, -⟩ := HP.out.below b1 HP.out.lt
    clear b1 hd hb ht hls hout
    by_cases hbk : 0 ≤ b ∧ b ≤ (nb : Int) - 1
    · obtain ⟨k, rfl⟩ : ∃ k : Nat, b = (k : Int) := ⟨b.toNat, by omega⟩
      have hkb : k < nb := by omega
      obtain ⟨x, y, z, hbd, hx, hy, hz, hxn, hyn⟩ := bd_of HFS.out hkb
      obtain ⟨gb, xb, yb, zb, ha, -, -, ⟨e1, e2, e3⟩, k0, k1, k2⟩ := (HR.out.keep HB1'.out (Nat.le_refl _)).at k hkb
      rw [hx] at e1
      rw [hy] at e2
      rw [hz] at e3
      subst e1 e2 e3 ha
      have hTB : (∀ a, a < n → 0 ≤ M a a) ∧ ∀ a b, a < n → b < n → (∀ c s, D a b = some (c, s) → M a b = s ∧ s ≤ 10000 ∧ -10000 ≤ s) ∧ (D a b = none → M a b = 1000000) := by
        obtain ⟨q1, q2⟩ := HM.out HD.out hbk
        rw [show ((n : Int)).toNat = n by simp] at q1 q2
        exact least_table (keptB_in (W := []) HFS.out) (by omega) HLS.out q1 q2
      have HYE : Hid (RoomP (n : Int) nb F M (k : Int)) := ⟨HD.out, hbk, fun a ha => hTB.1 a (by simpa using ha)⟩
      have HTB := Lib.hid (hTB.2 y x hyn hxn)
      have HX : Hid (roomX F M k = if M y x = 1000000 then 1000000 else wrap64 (z + M y x)) := by rw [Hid, roomX, hbd]
      have wx : (Lit.int .i64 (x : Int)).wf = true := wfI (by omega) (by omega)
      have wy : (Lit.int .i64 (y : Int)).wf = true := wfI (by omega) (by omega)
      clear hTB hbd hx hy hz
      go_wp2_with fail
      refine (within_i64_t _ _ _ _ hbk.1 hbk.2).mono ?_; rintro r w' ⟨rfl, rfl⟩
      obtain ⟨W2, hW2⟩ : ∃ W2, w1.alloc (.cells #[.int .i64 (x : Int), .int .i64 (y : Int), .int .i64 z] 50) = W2 := ⟨_, rfl⟩
      have hb2 : Below w1.heap.size w1 W2 := by rw [← hW2]; exact (Below.refl _ _).alloc (Nat.le_refl _) _
      have s0 : W2.cell? ⟨w1.heap.size, 2, none⟩ = some (.int .i64 z) := by rw [← hW2]; simp [go_sem]
      have s3 : W2.cell? ⟨w1.heap.size, 0, none⟩ = some (.int .i64 (x : Int)) := by rw [← hW2]; simp [go_sem]
      have s4 : W2.cell? ⟨w1.heap.size, 1, none⟩ = some (.int .i64 (y : Int)) := by rw [← hW2]; simp [go_sem]
      have hs2 : w1.heap.size < W2.heap.size := by rw [← hW2]; simp
      have HQ := Lib.hid (most_any bm m D (y : Int) (x : Int) W2 (HT.out.below hb2 HT.out.lt) wy wx)
      rw [GI_nat] at HQ
      have HB2 := Lib.hid (HB1.out.trans (hb2.mono HB1.out.size))
      have HS0 := Lib.hid s0
      clear hb2 s0
      go_wp2_with fail
      clear hW2
      refine HQ.out.mono ?_; rintro r w3 ⟨rfl, b3⟩
      have HB3 := Lib.hid (HB2.out.trans (b3.mono HB2.out.size))
      have s1 : w3.cell? ⟨w1.heap.size, 2, none⟩ = some (.int .i64 z) := (b3.cell (p := ⟨w1.heap.size, 2, none⟩) hs2).trans HS0.out
      clear b3
      cases hyx : D y x with
      | none =>
        have HE : Hid (roomX F M k = 1000000) := by rw [Hid, HX.out, if_pos (HTB.out.2 hyx)]
        clear hyx
        go_wp2
        go_ret2
        exact ⟨HB3.out, _, true, rfl, ⟨fun _ => ⟨by simp [HE.out], rfl⟩, fun h => absurd HYE.out h⟩⟩
      | some cs =>
        obtain ⟨c, s⟩ := cs
        have HE : Hid (roomX F M k = wrap64 (z + s)) := by
          obtain ⟨q1, q2, q3⟩ := HTB.out.1 c s hyx
          rw [Hid, HX.out, q1, if_neg (by omega)]
        clear hyx
        go_wp2
        go_ret2
        exact ⟨HB3.out, _, true, rfl, ⟨fun _ => ⟨by simp [HE.out], rfl⟩, fun h => absurd HYE.out h⟩⟩
    · have HNO : Hid (¬ RoomP (n : Int) nb F M b) := fun h => hbk h.2.1
      go_wp2_with fail
      refine (within_i64_f _ _ _ _ (by omega)).mono ?_; rintro r w' ⟨rfl, rfl⟩
      go_wp2
      go_ret2
      exact ⟨HB1.out, 0, false, rfl, ⟨fun h => absurd h HNO.out, fun _ => ⟨rfl, rfl⟩⟩⟩
  · have HB1 := Lib.hid (HB0.out.trans (b1.mono HB0.out.size))
    have HNO : Hid (¬ RoomP e nb F M b) := by
      rintro ⟨hd, h1, h3⟩
      obtain ⟨n, rfl⟩ : ∃ n : Nat, e = (n : Int) := ⟨e.toNat, by have := (diaB_okG hd).1; omega⟩
      obtain ⟨q1, q2⟩ := HM.out hd h1
      have hr := hneg hd
      rw [show ((n : Int)).toNat = n by simp] at q1 q2 hr h3
      obtain ⟨a, ha, hlt⟩ := ring_table (keptB_in (W := []) (dia_fs hd)) hr q2
      have := h3 a ha
      omega
    clear b1 hneg
    go_wp2
    go_ret2
    exact ⟨HB1.out, 0, false, rfl, ⟨fun h => absurd h HNO.out, fun _ => ⟨rfl, rfl⟩⟩⟩
end Go.Proofs.Ythigopehalkoaab
