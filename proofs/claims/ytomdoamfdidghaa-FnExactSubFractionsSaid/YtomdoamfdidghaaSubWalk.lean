/- The walk of a law: SubFractions is the same on both sides. -/
import Derived.Test.YtomdoamfdidghaaSubLaw
namespace Go.Proofs.Ytomdoamfdidghaa
open Go.RowKit
set_option maxHeartbeats 4000000 in
set_option maxRecDepth 100000 in
theorem walk_FnExactSubFractions (n d p q : Int) (w : World) (_w0 : (Lit.int .i64 n).wf = true) (_w1 : (Lit.int .i64 d).wf = true) (_w2 : (Lit.int .i64 p).wf = true) (_w3 : (Lit.int .i64 q).wf = true) :
    Calls Try.prog 5 #[.agg #[.int .i64 n, .int .i64 d], .agg #[.int .i64 p, .int .i64 q]] w fun e w' => e = .returned (.bool true) ∧ Below w.heap.size w w' := by
  obtain ⟨N, D, c, hS, hI⟩ := sub_both n d p q
  have HS := Lib.hid hS
  have HI := Lib.hid hI
  clear hS hI
  go_enter Try.func5, Try.ntmps5
  go_wp2
  refine meet2 ?X (fun b W => W.cell? ⟨w.heap.size, 0, none⟩ = some (.int .i64 n) ∧ W.cell? ⟨w.heap.size, 1, none⟩ = some (.int .i64 d) ∧ W.cell? ⟨w.heap.size + 1, 0, none⟩ = some (.int .i64 p) ∧ W.cell? ⟨w.heap.size + 1, 1, none⟩ = some (.int .i64 q) ∧ W.cell? ⟨b, 0, none⟩ = some (.int .i64 N) ∧ W.cell? ⟨b, 1, none⟩ = some (.int .i64 D) ∧ w.heap.size + 1 < b ∧ b < W.heap.size ∧ Below w.heap.size w W) ?h1 ?h2
  case h1 =>
    intro K1
    go_region_held3 (fun w' => w'.cell? ⟨w.heap.size, 0, none⟩ = some (.int .i64 n) ∧ w'.cell? ⟨w.heap.size, 1, none⟩ = some (.int .i64 d) ∧ w'.cell? ⟨w.heap.size + 1, 0, none⟩ = some (.int .i64 p) ∧ w'.cell? ⟨w.heap.size + 1, 1, none⟩ = some (.int .i64 q)) (first | (go_keep; done) | ((try dsimp only); (repeat' apply And.intro) <;> assumption) | (go_split_ands; (refine ⟨?_, ?_, ?_, ?_⟩ <;> (apply cell_kept <;> assumption))) | (go_split_ands; (refine ⟨?_, ?_, ?_, ?_⟩ <;> (exact cell_alloc_other (by assumption) (by have h1 := sza.out; have h2 := szb.out; have h3 := szc.out; (try simp at h1); (try simp at h2); (try simp at h3); dsimp only; omega)))) | (go_split_ands; (refine ⟨?_, ?_, ?_, ?_⟩ <;> (exact cell_set_kept (by have h1 := sza.out; have h2 := szb.out; have h3 := szc.out; (try simp at h1); (try simp at h2); (try simp at h3); dsimp only; omega) (cell_set_kept (by have h1 := sza.out; have h2 := szb.out; have h3 := szc.out; (try simp at h1); (try simp at h2); (try simp at h3); dsimp only; omega) (by assumption))))) | ((try dsimp only); (repeat' apply And.intro) <;> (first | assumption | (go_keep; done) | (apply cell_kept <;> assumption)))) (first | (go_at_call 10; first | ((with_reducible refine (toFraction_any n d _).mono ?_); rintro e wa ⟨rfl, hba⟩; have sza := Lib.hid hba.size; (try (refine fresh2 (w.heap.size + 1 + 1) (.int .i64 0) (.int .i64 0) hba ?_ ?_ ?_ ?_ ?_ ?_; (focus (first | assumption | (simp [go_sem]; done))); (focus (first | assumption | (simp [go_sem]; done))); (focus (first | assumption | (simp [go_sem]; done))); (focus (first | assumption | (simp [go_sem]; done))); (focus (first | (simp; done) | (simp; omega) | omega)); intro ae1 ae2 ae3 ae4 ae5))) | ((with_reducible refine (toFraction_any p q _).mono ?_); rintro e wb ⟨rfl, hbb⟩; have szb := Lib.hid hbb.size; (try (first | (refine fresh2 (w.heap.size + 1 + 1) (.int .i64 0) (.int .i64 0) hbb ?_ ?_ ?_ ?_ ?_ ?_; (focus (first | assumption | (simp [go_sem]; done))); (focus (first | assumption | (simp [go_sem]; done))); (focus (first | assumption | (simp [go_sem]; done))); (focus (first | assumption | (simp [go_sem]; done))); (focus (first | (simp; done) | (simp; omega) | omega)); intro be1 be2 be3 be4 be5) | (refine fresh2 (wa.heap.size) (.int .i64 0) (.int .i64 0) hbb ?_ ?_ ?_ ?_ ?_ ?_; (focus (first | assumption | (simp [go_sem]; done))); (focus (first | assumption | (simp [go_sem]; done))); (focus (first | assumption | (simp [go_sem]; done))); (focus (first | assumption | (simp [go_sem]; done))); (focus (first | (simp; done) | (simp; omega) | omega)); intro be1 be2 be3 be4 be5))))) | (go_at_call 15; refine (HS.out _).mono ?_; rintro e wc ⟨rfl, hbc⟩; have szc := Lib.hid hbc.size; (try (first | (refine fresh2 (w.heap.size + 1 + 1) (.int .i64 0) (.int .i64 0) hbc ?_ ?_ ?_ ?_ ?_ ?_; (focus (first | assumption | (simp [go_sem]; done))); (focus (first | assumption | (simp [go_sem]; done))); (focus (first | assumption | (simp [go_sem]; done))); (focus (first | assumption | (simp [go_sem]; done))); (focus (first | (simp; done) | (simp; omega) | omega)); intro ce1 ce2 ce3 ce4 ce5) | (refine fresh2 (wa.heap.size) (.int .i64 0) (.int .i64 0) hbc ?_ ?_ ?_ ?_ ?_ ?_; (focus (first | assumption | (simp [go_sem]; done))); (focus (first | assumption | (simp [go_sem]; done))); (focus (first | assumption | (simp [go_sem]; done))); (focus (first | assumption | (simp [go_sem]; done))); (focus (first | (simp; done) | (simp; omega) | omega)); intro ce1 ce2 ce3 ce4 ce5) | (refine fresh2 (wb.heap.size) (.int .i64 0) (.int .i64 0) hbc ?_ ?_ ?_ ?_ ?_ ?_; (focus (first | assumption | (simp [go_sem]; done))); (focus (first | assumption | (simp [go_sem]; done))); (focus (first | assumption | (simp [go_sem]; done))); (focus (first | assumption | (simp [go_sem]; done))); (focus (first | (simp; done) | (simp; omega) | omega)); intro ce1 ce2 ce3 ce4 ce5)))))
    · refine gen_end _ (fun W => W.cell? ⟨w.heap.size, 0, none⟩ = some (.int .i64 n) ∧ W.cell? ⟨w.heap.size, 1, none⟩ = some (.int .i64 d) ∧ W.cell? ⟨w.heap.size + 1, 0, none⟩ = some (.int .i64 p) ∧ W.cell? ⟨w.heap.size + 1, 1, none⟩ = some (.int .i64 q) ∧ W.cell? ⟨wc.heap.size, 0, none⟩ = some (.int .i64 N) ∧ W.cell? ⟨wc.heap.size, 1, none⟩ = some (.int .i64 D) ∧ w.heap.size + 1 < wc.heap.size ∧ wc.heap.size < W.heap.size ∧ Below w.heap.size w W) ?_ ?_
      · have h1 := sza.out; have h2 := szb.out; have h3 := szc.out; (try simp at h1); (try simp at h2); (try simp at h3)
        refine ⟨?_, ?_, ?_, ?_, ?_, ?_, ?_, ?_, ?_⟩
        all_goals (first | assumption | (simp [go_sem, *]; done) | (simp; omega) | ((repeat' (first | exact (Below.refl _ _) | (refine below_dr1 ?_) | (refine Below.setCell ?_ ?_ _) | (refine Below.alloc ?_ ?_ _) | (refine Below.trans ?_ (hbc.mono ?_)) | (refine Below.trans ?_ (hbb.mono ?_)) | (refine Below.trans ?_ (hba.mono ?_)))) <;> (first | (simp; done) | (simp; omega) | omega); done) | skip)
      · intro Wn hW
        generalize wc.heap.size = g at hW ⊢
        exact K1.out g Wn hW
    · refine gen_end _ (fun W => W.cell? ⟨w.heap.size, 0, none⟩ = some (.int .i64 n) ∧ W.cell? ⟨w.heap.size, 1, none⟩ = some (.int .i64 d) ∧ W.cell? ⟨w.heap.size + 1, 0, none⟩ = some (.int .i64 p) ∧ W.cell? ⟨w.heap.size + 1, 1, none⟩ = some (.int .i64 q) ∧ W.cell? ⟨wb.heap.size, 0, none⟩ = some (.int .i64 N) ∧ W.cell? ⟨wb.heap.size, 1, none⟩ = some (.int .i64 D) ∧ w.heap.size + 1 < wb.heap.size ∧ wb.heap.size < W.heap.size ∧ Below w.heap.size w W) ?_ ?_
      · have h1 := sza.out; have h2 := szb.out; have h3 := szc.out; (try simp at h1); (try simp at h2); (try simp at h3)
        refine ⟨?_, ?_, ?_, ?_, ?_, ?_, ?_, ?_, ?_⟩
        all_goals (first | assumption | (simp [go_sem, *]; done) | (simp; omega) | ((repeat' (first | exact (Below.refl _ _) | (refine below_dr1 ?_) | (refine Below.setCell ?_ ?_ _) | (refine Below.alloc ?_ ?_ _) | (refine Below.trans ?_ (hbc.mono ?_)) | (refine Below.trans ?_ (hbb.mono ?_)) | (refine Below.trans ?_ (hba.mono ?_)))) <;> (first | (simp; done) | (simp; omega) | omega); done) | skip)
      · intro Wn hW
        generalize wb.heap.size = g at hW ⊢
        exact K1.out g Wn hW
    · refine gen_end _ (fun W => W.cell? ⟨w.heap.size, 0, none⟩ = some (.int .i64 n) ∧ W.cell? ⟨w.heap.size, 1, none⟩ = some (.int .i64 d) ∧ W.cell? ⟨w.heap.size + 1, 0, none⟩ = some (.int .i64 p) ∧ W.cell? ⟨w.heap.size + 1, 1, none⟩ = some (.int .i64 q) ∧ W.cell? ⟨wa.heap.size, 0, none⟩ = some (.int .i64 N) ∧ W.cell? ⟨wa.heap.size, 1, none⟩ = some (.int .i64 D) ∧ w.heap.size + 1 < wa.heap.size ∧ wa.heap.size < W.heap.size ∧ Below w.heap.size w W) ?_ ?_
      · have h1 := sza.out; have h2 := szb.out; have h3 := szc.out; (try simp at h1); (try simp at h2); (try simp at h3)
        refine ⟨?_, ?_, ?_, ?_, ?_, ?_, ?_, ?_, ?_⟩
        all_goals (first | assumption | (simp [go_sem, *]; done) | (simp; omega) | ((repeat' (first | exact (Below.refl _ _) | (refine below_dr1 ?_) | (refine Below.setCell ?_ ?_ _) | (refine Below.alloc ?_ ?_ _) | (refine Below.trans ?_ (hbc.mono ?_)) | (refine Below.trans ?_ (hbb.mono ?_)) | (refine Below.trans ?_ (hba.mono ?_)))) <;> (first | (simp; done) | (simp; omega) | omega); done) | skip)
      · intro Wn hW
        generalize wa.heap.size = g at hW ⊢
        exact K1.out g Wn hW
    · refine gen_end _ (fun W => W.cell? ⟨w.heap.size, 0, none⟩ = some (.int .i64 n) ∧ W.cell? ⟨w.heap.size, 1, none⟩ = some (.int .i64 d) ∧ W.cell? ⟨w.heap.size + 1, 0, none⟩ = some (.int .i64 p) ∧ W.cell? ⟨w.heap.size + 1, 1, none⟩ = some (.int .i64 q) ∧ W.cell? ⟨w.heap.size + 1 + 1, 0, none⟩ = some (.int .i64 N) ∧ W.cell? ⟨w.heap.size + 1 + 1, 1, none⟩ = some (.int .i64 D) ∧ w.heap.size + 1 < w.heap.size + 1 + 1 ∧ w.heap.size + 1 + 1 < W.heap.size ∧ Below w.heap.size w W) ?_ ?_
      · have h1 := sza.out; have h2 := szb.out; have h3 := szc.out; (try simp at h1); (try simp at h2); (try simp at h3)
        refine ⟨?_, ?_, ?_, ?_, ?_, ?_, ?_, ?_, ?_⟩
        all_goals (first | assumption | (simp [go_sem, *]; done) | (simp; omega) | ((repeat' (first | exact (Below.refl _ _) | (refine below_dr1 ?_) | (refine Below.setCell ?_ ?_ _) | (refine Below.alloc ?_ ?_ _) | (refine Below.trans ?_ (hbc.mono ?_)) | (refine Below.trans ?_ (hbb.mono ?_)) | (refine Below.trans ?_ (hba.mono ?_)))) <;> (first | (simp; done) | (simp; omega) | omega); done) | skip)
      · intro Wn hW
        generalize w.heap.size + 1 + 1 = g at hW ⊢
        exact K1.out g Wn hW
  case h2 =>
    intro b W hW
    obtain ⟨c0, c1, c2, c3, c4, c5, hb1, hb2, hB⟩ := hW
    have HB := Lib.hid hB
    clear hB
    go_wp2
    refine meet2 ?X2 (fun b2 W2 => W2.cell? ⟨b, 0, none⟩ = some (.int .i64 N) ∧ W2.cell? ⟨b, 1, none⟩ = some (.int .i64 D) ∧ W2.cell? ⟨b2, 0, none⟩ = some (.int .i64 N) ∧ W2.cell? ⟨b2, 1, none⟩ = some (.int .i64 D) ∧ b < W2.heap.size ∧ b2 < W2.heap.size ∧ Below w.heap.size w W2) ?g1 ?g2
    case g1 =>
      intro K2
      go_region_held3 (fun w' => w'.cell? ⟨w.heap.size, 0, none⟩ = some (.int .i64 n) ∧ w'.cell? ⟨w.heap.size, 1, none⟩ = some (.int .i64 d) ∧ w'.cell? ⟨w.heap.size + 1, 0, none⟩ = some (.int .i64 p) ∧ w'.cell? ⟨w.heap.size + 1, 1, none⟩ = some (.int .i64 q) ∧ w'.cell? ⟨b, 0, none⟩ = some (.int .i64 N) ∧ w'.cell? ⟨b, 1, none⟩ = some (.int .i64 D)) (first | (go_keep; done) | ((try dsimp only); (repeat' apply And.intro) <;> assumption) | (go_split_ands; (refine ⟨?_, ?_, ?_, ?_, ?_, ?_⟩ <;> (apply cell_kept <;> assumption))) | (go_split_ands; (refine ⟨?_, ?_, ?_, ?_, ?_, ?_⟩ <;> (exact cell_alloc_other (by assumption) (by have h1 := sza.out; have h2 := szb.out; have h3 := szc.out; (try simp at h1); (try simp at h2); (try simp at h3); dsimp only; omega)))) | (go_split_ands; (refine ⟨?_, ?_, ?_, ?_, ?_, ?_⟩ <;> (exact cell_set_kept (by have h1 := sza.out; have h2 := szb.out; have h3 := szc.out; (try simp at h1); (try simp at h2); (try simp at h3); dsimp only; omega) (cell_set_kept (by have h1 := sza.out; have h2 := szb.out; have h3 := szc.out; (try simp at h1); (try simp at h2); (try simp at h3); dsimp only; omega) (by assumption))))) | ((try dsimp only); (repeat' apply And.intro) <;> (first | assumption | (go_keep; done) | (apply cell_kept <;> assumption)))) (first | (go_at_call 10; first | ((with_reducible refine (toFraction_any n d _).mono ?_); rintro e wa ⟨rfl, hba⟩; have sza := Lib.hid hba.size; (try (refine fresh2 (W.heap.size) (.int .i64 0) (.int .i64 0) hba ?_ ?_ ?_ ?_ ?_ ?_; (focus (first | assumption | (simp [go_sem]; done))); (focus (first | assumption | (simp [go_sem]; done))); (focus (first | assumption | (simp [go_sem]; done))); (focus (first | assumption | (simp [go_sem]; done))); (focus (first | (simp; done) | (simp; omega) | omega)); intro ae1 ae2 ae3 ae4 ae5))) | ((with_reducible refine (toFraction_any p q _).mono ?_); rintro e wb ⟨rfl, hbb⟩; have szb := Lib.hid hbb.size; (try (first | (refine fresh2 (W.heap.size) (.int .i64 0) (.int .i64 0) hbb ?_ ?_ ?_ ?_ ?_ ?_; (focus (first | assumption | (simp [go_sem]; done))); (focus (first | assumption | (simp [go_sem]; done))); (focus (first | assumption | (simp [go_sem]; done))); (focus (first | assumption | (simp [go_sem]; done))); (focus (first | (simp; done) | (simp; omega) | omega)); intro be1 be2 be3 be4 be5) | (refine fresh2 (wa.heap.size) (.int .i64 0) (.int .i64 0) hbb ?_ ?_ ?_ ?_ ?_ ?_; (focus (first | assumption | (simp [go_sem]; done))); (focus (first | assumption | (simp [go_sem]; done))); (focus (first | assumption | (simp [go_sem]; done))); (focus (first | assumption | (simp [go_sem]; done))); (focus (first | (simp; done) | (simp; omega) | omega)); intro be1 be2 be3 be4 be5))))) | (go_at_call 16; refine (HI.out _).mono ?_; rintro e wc ⟨rfl, hbc⟩; have szc := Lib.hid hbc.size; (try (first | (refine fresh2 (W.heap.size) (.int .i64 0) (.int .i64 0) hbc ?_ ?_ ?_ ?_ ?_ ?_; (focus (first | assumption | (simp [go_sem]; done))); (focus (first | assumption | (simp [go_sem]; done))); (focus (first | assumption | (simp [go_sem]; done))); (focus (first | assumption | (simp [go_sem]; done))); (focus (first | (simp; done) | (simp; omega) | omega)); intro ce1 ce2 ce3 ce4 ce5) | (refine fresh2 (wa.heap.size) (.int .i64 0) (.int .i64 0) hbc ?_ ?_ ?_ ?_ ?_ ?_; (focus (first | assumption | (simp [go_sem]; done))); (focus (first | assumption | (simp [go_sem]; done))); (focus (first | assumption | (simp [go_sem]; done))); (focus (first | assumption | (simp [go_sem]; done))); (focus (first | (simp; done) | (simp; omega) | omega)); intro ce1 ce2 ce3 ce4 ce5) | (refine fresh2 (wb.heap.size) (.int .i64 0) (.int .i64 0) hbc ?_ ?_ ?_ ?_ ?_ ?_; (focus (first | assumption | (simp [go_sem]; done))); (focus (first | assumption | (simp [go_sem]; done))); (focus (first | assumption | (simp [go_sem]; done))); (focus (first | assumption | (simp [go_sem]; done))); (focus (first | (simp; done) | (simp; omega) | omega)); intro ce1 ce2 ce3 ce4 ce5)))))
      · refine gen_end _ (fun W' => W'.cell? ⟨b, 0, none⟩ = some (.int .i64 N) ∧ W'.cell? ⟨b, 1, none⟩ = some (.int .i64 D) ∧ W'.cell? ⟨wc.heap.size, 0, none⟩ = some (.int .i64 N) ∧ W'.cell? ⟨wc.heap.size, 1, none⟩ = some (.int .i64 D) ∧ b < W'.heap.size ∧ wc.heap.size < W'.heap.size ∧ Below w.heap.size w W') ?_ ?_
        · have h1 := sza.out; have h2 := szb.out; have h3 := szc.out; (try simp at h1); (try simp at h2); (try simp at h3)
          refine ⟨?_, ?_, ?_, ?_, ?_, ?_, ?_⟩
          all_goals (first | assumption | (simp [go_sem, *]; done) | (simp; omega) | ((repeat' (first | exact HB.out | (refine below_dr1 ?_) | (refine Below.setCell ?_ ?_ _) | (refine Below.alloc ?_ ?_ _) | (refine Below.trans ?_ (hbc.mono ?_)) | (refine Below.trans ?_ (hbb.mono ?_)) | (refine Below.trans ?_ (hba.mono ?_)))) <;> (first | (simp; done) | (simp; omega) | omega); done) | skip)
        · intro Wn hW
          generalize wc.heap.size = g at hW ⊢
          exact K2.out g Wn hW
      · refine gen_end _ (fun W' => W'.cell? ⟨b, 0, none⟩ = some (.int .i64 N) ∧ W'.cell? ⟨b, 1, none⟩ = some (.int .i64 D) ∧ W'.cell? ⟨wb.heap.size, 0, none⟩ = some (.int .i64 N) ∧ W'.cell? ⟨wb.heap.size, 1, none⟩ = some (.int .i64 D) ∧ b < W'.heap.size ∧ wb.heap.size < W'.heap.size ∧ Below w.heap.size w W') ?_ ?_
        · have h1 := sza.out; have h2 := szb.out; have h3 := szc.out; (try simp at h1); (try simp at h2); (try simp at h3)
          refine ⟨?_, ?_, ?_, ?_, ?_, ?_, ?_⟩
          all_goals (first | assumption | (simp [go_sem, *]; done) | (simp; omega) | ((repeat' (first | exact HB.out | (refine below_dr1 ?_) | (refine Below.setCell ?_ ?_ _) | (refine Below.alloc ?_ ?_ _) | (refine Below.trans ?_ (hbc.mono ?_)) | (refine Below.trans ?_ (hbb.mono ?_)) | (refine Below.trans ?_ (hba.mono ?_)))) <;> (first | (simp; done) | (simp; omega) | omega); done) | skip)
        · intro Wn hW
          generalize wb.heap.size = g at hW ⊢
          exact K2.out g Wn hW
      · refine gen_end _ (fun W' => W'.cell? ⟨b, 0, none⟩ = some (.int .i64 N) ∧ W'.cell? ⟨b, 1, none⟩ = some (.int .i64 D) ∧ W'.cell? ⟨wa.heap.size, 0, none⟩ = some (.int .i64 N) ∧ W'.cell? ⟨wa.heap.size, 1, none⟩ = some (.int .i64 D) ∧ b < W'.heap.size ∧ wa.heap.size < W'.heap.size ∧ Below w.heap.size w W') ?_ ?_
        · have h1 := sza.out; have h2 := szb.out; have h3 := szc.out; (try simp at h1); (try simp at h2); (try simp at h3)
          refine ⟨?_, ?_, ?_, ?_, ?_, ?_, ?_⟩
          all_goals (first | assumption | (simp [go_sem, *]; done) | (simp; omega) | ((repeat' (first | exact HB.out | (refine below_dr1 ?_) | (refine Below.setCell ?_ ?_ _) | (refine Below.alloc ?_ ?_ _) | (refine Below.trans ?_ (hbc.mono ?_)) | (refine Below.trans ?_ (hbb.mono ?_)) | (refine Below.trans ?_ (hba.mono ?_)))) <;> (first | (simp; done) | (simp; omega) | omega); done) | skip)
        · intro Wn hW
          generalize wa.heap.size = g at hW ⊢
          exact K2.out g Wn hW
      · refine gen_end _ (fun W' => W'.cell? ⟨b, 0, none⟩ = some (.int .i64 N) ∧ W'.cell? ⟨b, 1, none⟩ = some (.int .i64 D) ∧ W'.cell? ⟨W.heap.size, 0, none⟩ = some (.int .i64 N) ∧ W'.cell? ⟨W.heap.size, 1, none⟩ = some (.int .i64 D) ∧ b < W'.heap.size ∧ W.heap.size < W'.heap.size ∧ Below w.heap.size w W') ?_ ?_
        · have h1 := sza.out; have h2 := szb.out; have h3 := szc.out; (try simp at h1); (try simp at h2); (try simp at h3)
          refine ⟨?_, ?_, ?_, ?_, ?_, ?_, ?_⟩
          all_goals (first | assumption | (simp [go_sem, *]; done) | (simp; omega) | ((repeat' (first | exact HB.out | (refine below_dr1 ?_) | (refine Below.setCell ?_ ?_ _) | (refine Below.alloc ?_ ?_ _) | (refine Below.trans ?_ (hbc.mono ?_)) | (refine Below.trans ?_ (hbb.mono ?_)) | (refine Below.trans ?_ (hba.mono ?_)))) <;> (first | (simp; done) | (simp; omega) | omega); done) | skip)
        · intro Wn hW
          generalize W.heap.size = g at hW ⊢
          exact K2.out g Wn hW
    case g2 =>
      clear c0 c1 c2 c3 c4 c5 hb1 hb2 HB
      intro b2 W2 hW
      obtain ⟨c0, c1, c2, c3, hb1, hb2, hB⟩ := hW
      have HB := Lib.hid hB
      clear hB
      go_wp2_with fail
      refine (eqFraction_same _ _ _).mono ?_; rintro e w3 ⟨rfl, hb3⟩
      go_wp2
      go_ret
      exact ⟨rfl, HB.out.trans (hb3.mono HB.out.size)⟩
end Go.Proofs.Ytomdoamfdidghaa
