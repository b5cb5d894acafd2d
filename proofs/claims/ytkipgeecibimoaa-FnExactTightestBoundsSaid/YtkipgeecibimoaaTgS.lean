/- TightestBounds: the model's side. -/
import Derived.Test.YtkipgeecibimoaaGapS
namespace Go.Proofs.Ytkipgeecibimoaa
open Go.RowKit
set_option linter.unusedVariables false

/-- the matrix is the one of the bounds -/
def TgM (e : Int) (nb : Nat) (F : List Int) (M : Nat → Nat → Int) : Prop := diaB e nb F = true → Sound (keptB F [] nb) e.toNat M ∧ Comp (keptB F [] nb) e.toNat e.toNat M
def TgP (e : Int) (nb : Nat) (F : List Int) (M : Nat → Nat → Int) : Prop := diaB e nb F = true ∧ ∀ a, a < e.toNat → 0 ≤ M a a
/-- what is answered, by the matrix -/
def TgIs (e : Int) (nb : Nat) (F : List Int) (M : Nat → Nat → Int) (w' : World) (B : Nat) (v : Value) (ok : Bool) : Prop :=
  (TgP e nb F M ∧ ok = true ∧ ∃ (go cap : Nat) (g c : Nat → Nat), v = .slice (some ⟨go, 0, none⟩) e.toNat cap ∧ e.toNat ≤ cap ∧ MatW w' B e.toNat M go g c) ∨ (¬ TgP e nb F M ∧ ok = false ∧ v = .slice none 0 0)
def TgR (e : Int) (nb : Nat) (F : List Int) (w : World) (r : Ending) (w' : World) : Prop :=
  Below w.heap.size w w' ∧ ∃ (M : Nat → Nat → Int) (v : Value) (ok : Bool), r = .returned (.tuple #[v, .bool ok]) ∧ TgM e nb F M ∧ TgIs e nb F M w' w.heap.size v ok

theorem MatW.weak {w : World} {B C n : Nat} {M : Nat → Nat → Int} {go : Nat} {g c : Nat → Nat} (h : MatW w B n M go g c) (hC : C ≤ B) : MatW w C n M go g c :=
  ⟨Nat.le_trans hC h.hgo, h.hlt, h.row, fun i hi => ⟨Nat.le_trans hC (h.hg i hi).1, (h.hg i hi).2⟩, h.inj, h.cell⟩
set_option maxHeartbeats 400000 in
set_option maxRecDepth 100000 in
theorem specTg (B : Nat) (e : Int) (a : Option Addr) (nb cap : Nat) (F : List Int) (w : World) (hr : Recs w B (.slice a nb cap) nb F) (hl : nb ≤ 1048576) :
    Calls Try.prog 42 #[.agg #[.int .i64 e, .slice a nb cap]] w fun r w' => TgR e nb F w r w' := by
  have hb0 : Below w.heap.size w (w.alloc (.cells #[.int .i64 e, .slice a nb cap] 65)) := (Below.refl _ _).alloc (Nat.le_refl _) _
  obtain ⟨w0, hw0⟩ : ∃ w0, w.alloc (.cells #[.int .i64 e, .slice a nb cap] 65) = w0 := ⟨_, rfl⟩
  have HP : Hid (At2 w0 w.heap.size (.int .i64 e) (.slice a nb cap)) := by rw [← hw0]; exact At2.new w _ _ _
  have HR : Hid (Recs w0 B (.slice a nb cap) nb F) := by rw [← hw0]; exact hr.keep hb0 (Nat.le_refl _)
  rw [hw0] at hb0
  have HB0 := Lib.hid hb0
  have HE1 := Lib.hid (l04Is_any w.heap.size B e a nb cap F w0 HP.out HR.out hl)
  clear hr hb0
  cases hd : diaB e nb F with
  | false =>
    have HNO : Hid (∀ M, ¬ TgP e nb F M) := fun M h => by rw [h.1] at hd; cases hd
    have HMO : Hid (∀ M, TgM e nb F M) := fun M q1 => by rw [q1] at hd; cases hd
    rw [hd] at HE1
    clear hd
    go_enter Try.func42, Try.ntmps42
    go_wp2_with fail
    refine HE1.out.mono ?_; rintro r w1 ⟨rfl, b1⟩
    have HB1 := Lib.hid (HB0.out.trans (b1.mono HB0.out.size))
    clear b1
    go_wp2
    go_ret2
    exact ⟨HB1.out, fun _ _ => 0, _, false, rfl, HMO.out _, .inr ⟨HNO.out _, rfl, rfl⟩⟩
  | true =>
    rw [hd] at HE1
    obtain ⟨he1, he2, hnb, -⟩ := diaB_okG hd
    obtain ⟨n, rfl⟩ : ∃ n : Nat, e = (n : Int) := ⟨e.toNat, by omega⟩
    have HFS := Lib.hid (dia_fs hd)
    have HD := Lib.hid hd
    have hn1 : 1 ≤ n := by omega
    have hn2 : n ≤ 10 := by omega
    clear hd
    go_enter Try.func42, Try.ntmps42
    go_wp2_with fail
    refine HE1.out.mono ?_; rintro r w2 ⟨rfl, b2⟩
    have HB2 := Lib.hid b2
    clear b2
    go_wp2_with fail
    have hb2' : Below w0.heap.size w0 (w2.alloc (.cells #[] 2)) := HB2.out.alloc HB2.out.size _
    have HB2a := Lib.hid hb2'
    have HTG := Lib.hid (tight_any w.heap.size B n nb cap 0 0 a (some ⟨w2.heap.size, 0, none⟩) F [] (w2.alloc (.cells #[] 2)) (HP.out.below hb2' HP.out.lt) (HR.out.keep hb2' (Nat.le_refl _)) HFS.out hn1 hn2 hnb (fun k hk => by simp at hk) rfl (by simp))
    clear hb2'
    refine HTG.out.mono ?_; rintro r w3 ⟨go, cap2, g, c, M, ok, rfl, hcap, hmat, hsd, hcp, hok, hb3⟩
    have HB3 := Lib.hid (HB0.out.trans ((HB2a.out.trans (hb3.mono HB2a.out.size)).mono HB0.out.size))
    have HGM : Hid (TgM (n : Int) nb F M) := fun _ => ⟨hsd, hcp⟩
    have HMAT : Hid (MatW w3 w.heap.size n M go g c) := hmat.weak (Nat.le_trans HB0.out.size HB2a.out.size)
    cases ok with
    | false =>
      have HNO : Hid (¬ TgP (n : Int) nb F M) := fun h => by have := hok.2 h.2; cases this
      clear hmat hsd hcp hok hb3
      go_wp2
      go_ret2
      exact ⟨HB3.out, M, _, false, rfl, HGM.out, .inr ⟨HNO.out, rfl, rfl⟩⟩
    | true =>
      have HOK : Hid (TgP (n : Int) nb F M) := ⟨HD.out, hok.1 rfl⟩
      clear hmat hsd hcp hok hb3
      go_wp2
      go_ret2
      exact ⟨HB3.out, M, _, true, rfl, HGM.out, .inl ⟨HOK.out, rfl, go, cap2, g, c, rfl, hcap, HMAT.out⟩⟩
end Go.Proofs.Ytkipgeecibimoaa
