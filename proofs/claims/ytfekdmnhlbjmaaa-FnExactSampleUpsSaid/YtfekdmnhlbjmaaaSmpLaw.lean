/- The walk of SampleUps' law. -/
import Derived.Test.YtfekdmnhlbjmaaaSmp
namespace Go.Proofs.Ytfekdmnhlbjmaaa
open Go.RowKit
set_option linter.unusedVariables false
theorem meet1 {G : Prop} (X : World → Prop) (F : World → Prop) (h1 : Hid (∀ W, F W → X W) → G) (h2 : ∀ W, F W → X W) : G := h1 (Lib.hid h2)

set_option maxHeartbeats 4000000 in
set_option maxRecDepth 100000 in
theorem walk_FnExactSampleUps (n d p q T : Int) (w : World) (_w0 : (Lit.int .i64 n).wf = true) (_w1 : (Lit.int .i64 d).wf = true) (_w2 : (Lit.int .i64 p).wf = true) (_w3 : (Lit.int .i64 q).wf = true) (_w4 : (Lit.int .i64 T).wf = true) :
    Calls Try.prog 5 #[.agg #[.int .i64 n, .int .i64 d], .agg #[.int .i64 p, .int .i64 q], .int .i64 T] w fun e w' => e = .returned (.bool true) ∧ Below w.heap.size w w' := by
  obtain ⟨r, c, hS, hI⟩ := smp_both n d p q T
  have HS := Lib.hid hS
  have HI := Lib.hid hI
  clear hS hI
  go_enter Try.func5, Try.ntmps5
  go_wp2
  refine meet1 ?X (fun W => W.cell? ⟨w.heap.size, 0, none⟩ = some (.int .i64 n) ∧ W.cell? ⟨w.heap.size, 1, none⟩ = some (.int .i64 d) ∧ W.cell? ⟨w.heap.size + 1, 0, none⟩ = some (.int .i64 p) ∧ W.cell? ⟨w.heap.size + 1, 1, none⟩ = some (.int .i64 q) ∧ Below w.heap.size w W) ?h1 ?h2
  case h1 =>
    intro K1
    go_region_held3 (fun w' => w'.cell? ⟨w.heap.size, 0, none⟩ = some (.int .i64 n) ∧ w'.cell? ⟨w.heap.size, 1, none⟩ = some (.int .i64 d) ∧ w'.cell? ⟨w.heap.size + 1, 0, none⟩ = some (.int .i64 p) ∧ w'.cell? ⟨w.heap.size + 1, 1, none⟩ = some (.int .i64 q)) (first | (go_keep; done) | ((try dsimp only); (repeat' apply And.intro) <;> assumption) | (go_split_ands; (refine ⟨?_, ?_, ?_, ?_⟩ <;> (apply cell_kept <;> assumption))) | ((try dsimp only); (repeat' apply And.intro) <;> (first | assumption | (go_keep; done) | (apply cell_kept <;> assumption)))) (first | (go_at_call 19; first | ((with_reducible refine (toFraction_any n d _).mono ?_); rintro e wa ⟨rfl, hba⟩; have sza := Lib.hid hba.size) | ((with_reducible refine (toFraction_any p q _).mono ?_); rintro e wb ⟨rfl, hbb⟩; have szb := Lib.hid hbb.size)) | (go_at_call 18; refine (HS.out _).mono ?_; rintro e wc ⟨rfl, hbc⟩; have szc := Lib.hid hbc.size))
    all_goals
      refine gen_end _ (fun W => W.cell? ⟨w.heap.size, 0, none⟩ = some (.int .i64 n) ∧ W.cell? ⟨w.heap.size, 1, none⟩ = some (.int .i64 d) ∧ W.cell? ⟨w.heap.size + 1, 0, none⟩ = some (.int .i64 p) ∧ W.cell? ⟨w.heap.size + 1, 1, none⟩ = some (.int .i64 q) ∧ Below w.heap.size w W) ?_ ?_
      · have h1 := sza.out; have h2 := szb.out; have h3 := szc.out; (try simp at h1); (try simp at h2); (try simp at h3)
        refine ⟨?_, ?_, ?_, ?_, ?_⟩
        all_goals (first | assumption | (simp [go_sem, *]; done) | (simp; omega) | ((repeat' (first | exact (Below.refl _ _) | (refine below_dr1 ?_) | (refine Below.alloc ?_ ?_ _) | (refine Below.trans ?_ (hbc.mono ?_)) | (refine Below.trans ?_ (hbb.mono ?_)) | (refine Below.trans ?_ (hba.mono ?_)))) <;> (first | (simp; done) | (simp; omega) | omega); done) | skip)
      · intro Wn hW
        exact K1.out Wn hW
  case h2 =>
    intro W hW
    obtain ⟨c0, c1, c2, c3, hB⟩ := hW
    have HB := Lib.hid hB
    have hsz := hB.size
    clear hB
    go_wp2
    refine meet1 ?X2 (fun W => W.cell? ⟨w.heap.size, 0, none⟩ = some (.int .i64 n) ∧ W.cell? ⟨w.heap.size, 1, none⟩ = some (.int .i64 d) ∧ W.cell? ⟨w.heap.size + 1, 0, none⟩ = some (.int .i64 p) ∧ W.cell? ⟨w.heap.size + 1, 1, none⟩ = some (.int .i64 q) ∧ Below w.heap.size w W) ?g1 ?g2
    case g1 =>
      intro K2
      go_region_held3 (fun w' => w'.cell? ⟨w.heap.size, 0, none⟩ = some (.int .i64 n) ∧ w'.cell? ⟨w.heap.size, 1, none⟩ = some (.int .i64 d) ∧ w'.cell? ⟨w.heap.size + 1, 0, none⟩ = some (.int .i64 p) ∧ w'.cell? ⟨w.heap.size + 1, 1, none⟩ = some (.int .i64 q)) (first | (go_keep; done) | ((try dsimp only); (repeat' apply And.intro) <;> assumption) | (go_split_ands; (refine ⟨?_, ?_, ?_, ?_⟩ <;> (apply cell_kept <;> assumption))) | ((try dsimp only); (repeat' apply And.intro) <;> (first | assumption | (go_keep; done) | (apply cell_kept <;> assumption)))) (first | (go_at_call 19; first | ((with_reducible refine (toFraction_any n d _).mono ?_); rintro e wa ⟨rfl, hba⟩; have sza := Lib.hid hba.size) | ((with_reducible refine (toFraction_any p q _).mono ?_); rintro e wb ⟨rfl, hbb⟩; have szb := Lib.hid hbb.size)) | (go_at_call 20; refine (HI.out _).mono ?_; rintro e wc ⟨rfl, hbc⟩; have szc := Lib.hid hbc.size))
      all_goals
        refine gen_end _ (fun W => W.cell? ⟨w.heap.size, 0, none⟩ = some (.int .i64 n) ∧ W.cell? ⟨w.heap.size, 1, none⟩ = some (.int .i64 d) ∧ W.cell? ⟨w.heap.size + 1, 0, none⟩ = some (.int .i64 p) ∧ W.cell? ⟨w.heap.size + 1, 1, none⟩ = some (.int .i64 q) ∧ Below w.heap.size w W) ?_ ?_
        · have h1 := sza.out; have h2 := szb.out; have h3 := szc.out; (try simp at h1); (try simp at h2); (try simp at h3)
          refine ⟨?_, ?_, ?_, ?_, ?_⟩
          all_goals (first | assumption | (simp [go_sem, *]; done) | (simp; omega) | ((repeat' (first | exact HB.out | (refine below_dr1 ?_) | (refine Below.alloc ?_ ?_ _) | (refine Below.trans ?_ (hbc.mono ?_)) | (refine Below.trans ?_ (hbb.mono ?_)) | (refine Below.trans ?_ (hba.mono ?_)))) <;> (first | (simp; done) | (simp; omega) | omega); done) | skip)
        · intro Wn hW
          exact K2.out Wn hW
    case g2 =>
      clear c0 c1 c2 c3 HB
      intro W2 hW
      obtain ⟨-, -, -, -, hB⟩ := hW
      have HB := Lib.hid hB
      clear hB
      go_wp2
      go_ret
      exact ⟨rfl, HB.out⟩
end Go.Proofs.Ytfekdmnhlbjmaaa
