/- MoveFlow on the program's side. -/
import Derived.Test.YtlobloaabghceaaCan
import Derived.Test.YtlobloaabghceaaClW
import Derived.Test.YtlobloaabghceaaFlowV
import Derived.Test.YtlobloaabghceaaShiftB
import Derived.Test.YtlobloaabghceaaQuietTail
import Derived.Deep.RegionHeld3
import Derived.Lib.OwnKind
namespace Go.Proofs.Ytlobloaabghceaa
open Go.RowKit Go.Shelf
set_option linter.unusedVariables false
set_option linter.unusedSimpArgs false

theorem row_setNe {w : World} {B e s n : Nat} {v : Value} {xs : List Value} (h : w.ownsRow B e s v n xs) (p : Addr) (x : Value) (hne : v.ownBlock ≠ some p.block) : (w.setCell p x).ownsRow B e s v n xs := by
  obtain ⟨h1, h2 | ⟨g, cap, cur, rfl, hg, hh, rest⟩⟩ := h
  · exact ⟨h1, .inl h2⟩
  · exact ⟨h1, .inr ⟨g, cap, cur, rfl, hg, (Below.heap_setCell w p x g (fun e => hne (by rw [← e]; rfl))).trans hh, rest⟩⟩
def MvFl (n : Nat) (ds : List Int) (wn : Nat) (F : List Int) (w2 : World) (po : Nat) (a2 : Option Addr) (c2 : Nat) (a3 : Option Addr) (c3 : Nat) (W : World) : Prop :=
  At2 W po (.slice a2 n c2) (.slice a3 wn c3) ∧ Ints W w2.heap.size (.slice a2 n c2) ds ∧ Recs W w2.heap.size (.slice a3 wn c3) wn F ∧ (Value.slice a2 n c2).ownBlock ≠ some po ∧ (Value.slice a3 wn c3).ownBlock ≠ some po ∧ w2.heap.size ≤ po ∧ Below w2.heap.size w2 W
theorem MvFl.set {n : Nat} {ds : List Int} {wn : Nat} {F : List Int} {w2 W : World} {po : Nat} {a2 : Option Addr} {c2 : Nat} {a3 : Option Addr} {c3 : Nat} {u v : Value} (h0 : At2 W po u v) (h1 : Ints W w2.heap.size (.slice a2 n c2) ds) (h2 : Recs W w2.heap.size (.slice a3 wn c3) wn F)
    (h3 : (Value.slice a2 n c2).ownBlock ≠ some po) (h4 : (Value.slice a3 wn c3).ownBlock ≠ some po) (h5 : w2.heap.size ≤ po) (h6 : Below w2.heap.size w2 W) :
    MvFl n ds wn F w2 po a2 c2 a3 c3 ((W.setCell ⟨po, 0, none⟩ (.slice a2 n c2)).setCell ⟨po, 1, none⟩ (.slice a3 wn c3)) :=
  ⟨(h0.set0 _).set1 _, row_setNe (row_setNe h1 ⟨po, 0, none⟩ _ h3) ⟨po, 1, none⟩ _ h3, ⟨h2.1, row_setNe (row_setNe h2.2 ⟨po, 0, none⟩ _ h4) ⟨po, 1, none⟩ _ h4⟩, h3, h4, h5, (h6.setCell h5 _).setCell h5 _⟩
theorem row_ne_size {w : World} {B e s n k : Nat} {v : Value} {xs : List Value} (h : w.ownsRow B e s v n xs) (hk : w.heap.size ≤ k) : v.ownBlock ≠ some k := fun e => by have := (World.ownsRow.lt h k e).2; omega
theorem row_ne_low {w : World} {B e s n k : Nat} {v : Value} {xs : List Value} (h : w.ownsRow B e s v n xs) (hk : k < B) : v.ownBlock ≠ some k := fun e => by have := (World.ownsRow.lt h k e).1; omega
theorem meetV {G : Prop} (X : Nat → Option Addr → Nat → Option Addr → Nat → World → Prop) (F : Nat → Option Addr → Nat → Option Addr → Nat → World → Prop) (h1 : Hid (∀ b a c a' c' W, F b a c a' c' W → X b a c a' c' W) → G) (h2 : ∀ b a c a' c' W, F b a c a' c' W → X b a c a' c' W) : G := h1 (Lib.hid h2)
theorem gen_endV {K : Act → World → Prop} {Q : Exit → Act → World → Prop} {E : Exit} {A : Act} (W0 : World) (F : World → Prop) (h0 : F W0) (k : ∀ W, F W → Exit.then K Q E A W) : Exit.then K Q E A W0 := k W0 h0
theorem own_neN {w : World} {B X : Nat} {e size : Nat} {v : Value} {n : Nat} {xs : List Value} {cs : Array Value} {T : Nat} {fz : Nat × Nat} (h : w.ownsRow B e size v n xs) (hX : w.heap[X]? = some (.cells cs T fz)) (hT : T ≠ e) : v.ownBlock ≠ some X := by
  intro hv
  obtain ⟨c, fz2, hc⟩ := Lib.ownsRow_kind h X hv
  rw [hX] at hc
  injection hc with hc
  injection hc with h1 h2
  exact hT h2
theorem rows_other {w : World} {B B2 : Nat} {e1 e2 s1 s2 n1 n2 : Nat} {v1 v2 : Value} {x1 x2 : List Value} (h1 : w.ownsRow B e1 s1 v1 n1 x1) (h2 : w.ownsRow B2 e2 s2 v2 n2 x2) (hT : e2 ≠ e1) : v1.ownBlock = none ∨ v1.ownBlock ≠ v2.ownBlock := by
  cases hv : v2.ownBlock with
  | none =>
    cases hv1 : v1.ownBlock with
    | none => exact .inl rfl
    | some g => exact .inr (fun e => by cases e)
  | some g =>
    obtain ⟨c, fz, hc⟩ := Lib.ownsRow_kind h2 g hv
    exact .inr (own_neN h1 hc hT)
theorem MvFl.alloc {n : Nat} {ds : List Int} {wn : Nat} {F : List Int} {w2 W : World} {po : Nat} {a2 : Option Addr} {c2 : Nat} {a3 : Option Addr} {c3 : Nat} (h : MvFl n ds wn F w2 po a2 c2 a3 c3 W) (o : Obj) : MvFl n ds wn F w2 po a2 c2 a3 c3 (W.alloc o) :=
  ⟨h.1.alloc o, World.ownsRow.alloc h.2.1 o, ⟨h.2.2.1.1, World.ownsRow.alloc h.2.2.1.2 o⟩, h.2.2.2.1, h.2.2.2.2.1, h.2.2.2.2.2.1, h.2.2.2.2.2.2.alloc h.2.2.2.2.2.2.size o⟩
theorem MvFl.drewN {n : Nat} {ds : List Int} {wn : Nat} {F : List Int} {w2 W : World} {po : Nat} {a2 : Option Addr} {c2 : Nat} {a3 : Option Addr} {c3 : Nat} (h : MvFl n ds wn F w2 po a2 c2 a3 c3 W) (q : Nat) : MvFl n ds wn F w2 po a2 c2 a3 c3 (W.drewN q) :=
  ⟨h.1.drewN q, h.2.1.keep (below_dN W q) (Nat.le_refl _), h.2.2.1.keep (below_dN W q) (Nat.le_refl _), h.2.2.2.1, h.2.2.2.2.1, h.2.2.2.2.2.1, ⟨h.2.2.2.2.2.2.os, h.2.2.2.2.2.2.tape, h.2.2.2.2.2.2.output, h.2.2.2.2.2.2.size, h.2.2.2.2.2.2.block⟩⟩
theorem MvFl.put {n : Nat} {ds : List Int} {wn : Nat} {F : List Int} {w2 W : World} {po : Nat} {a2 : Option Addr} {c2 : Nat} {g c3 : Nat} (h : MvFl n ds wn F w2 po a2 c2 (some ⟨g, 0, none⟩) c3 W) (j : Nat) (x : Int) : MvFl n ds wn (F.set j x) w2 po a2 c2 (some ⟨g, 0, none⟩) c3 (W.setCell ⟨g, j, none⟩ (.int .i64 x)) := by
  have hne : g ≠ po := fun e => h.2.2.2.2.1 (by rw [e]; rfl)
  have hg := World.ownsRow.lt h.2.2.1.2 g rfl
  have hap : (Value.slice a2 n c2).ownBlock ≠ some g := by
    rcases rows_other h.2.1 h.2.2.1.2 (by decide) with e | e
    · rw [e]; simp
    · intro e2; exact e (by rw [e2]; rfl)
  exact ⟨h.1.set_ne hne j _, row_setNe h.2.1 ⟨g, j, none⟩ _ hap, h.2.2.1.put j x, h.2.2.2.1, h.2.2.2.2.1, h.2.2.2.2.2.1, h.2.2.2.2.2.2.setCell hg.1 _⟩
def MfR (ds : List Int) (wn : Nat) (F M : List Int) (w : World) (r : Ending) (w' : World) : Prop := Below w.heap.size w w' ∧ ∃ (va vw : Value) (ok : Bool), r = .returned (.tuple #[.agg #[va, vw], .bool ok]) ∧ (ok = true ↔ CanMv ds wn F M) ∧ (ok = true → Ints w' w.heap.size va ds ∧ Recs w' w.heap.size vw wn (mvF M F wn)) ∧ (ok = false → va = .slice none 0 0 ∧ vw = .slice none 0 0)
theorem MfR.no {ds : List Int} {wn : Nat} {F M : List Int} {w w' : World} (h : ¬ CanMv ds wn F M) (hb : Below w.heap.size w w') : MfR ds wn F M w (.returned (.tuple #[.agg #[.slice none 0 0, .slice none 0 0], .bool false])) w' :=
  ⟨hb, _, _, false, rfl, ⟨fun e => (Bool.false_ne_true e).elim, fun e => (h e).elim⟩, fun e => (Bool.false_ne_true e).elim, fun _ => ⟨rfl, rfl⟩⟩
set_option maxHeartbeats 1200000 in
set_option maxRecDepth 100000 in
theorem implMove (B : Nat) (da : Option Addr) (dn dc : Nat) (ds : List Int) (wa : Option Addr) (wn wc : Nat) (F : List Int) (ma : Option Addr) (mn mc : Nat) (M : List Int) (w : World) (hf : Fl w B da dn dc ds wa wn wc F)
    (hm : Ints w B (.slice ma mn mc) M) (hdl : dn ≤ 1048576) (hwl : wn ≤ 1048576) (hml : mn ≤ 1048576) :
    Calls Try.prog 17 #[.agg #[.slice da dn dc, .slice wa wn wc], .slice ma mn mc] w fun r w' => MfR ds wn F M w r w' := by
  obtain rfl := hf.n
  obtain rfl := hm.row.2.2.2
  obtain ⟨w0, hw0⟩ : ∃ w0, w.alloc (.cells #[.slice da ds.length dc, .slice wa wn wc] 31) = w0 := ⟨_, rfl⟩
  obtain ⟨w1, hw1⟩ : ∃ w1, w0.alloc (.cells #[.slice none 0 0, .slice none 0 0] 31) = w1 := ⟨_, rfl⟩
  have hz0 : w0.heap.size = w.heap.size + 1 := by rw [← hw0]; simp
  have hz1 : w1.heap.size = w.heap.size + 2 := by rw [← hw1]; simp [hz0]
  have hb0 : Below w.heap.size w w0 := by rw [← hw0]; exact (Below.refl _ _).alloc (Nat.le_refl _) _
  have hb1 : Below w.heap.size w w1 := by rw [← hw1]; exact hb0.alloc (by omega) _
  have HP : Hid (At2 w1 w.heap.size (.slice da ds.length dc) (.slice wa wn wc)) := by
    have h : At2 w0 w.heap.size (.slice da ds.length dc) (.slice wa wn wc) := by rw [← hw0]; exact At2.new w _ _ _
    rw [← hw1]; exact h.alloc _
  have HR : Hid (At2 w1 w0.heap.size (.slice none 0 0) (.slice none 0 0)) := by rw [← hw1]; exact At2.new w0 _ _ _
  have HB1 := Lib.hid hb1
  have HF := Lib.hid (hf.keep hb1 (Nat.le_refl _))
  have HM := Lib.hid (hm.keep hb1 (Nat.le_refl _))
  have HI := Lib.hid (implValid B _ _ _ _ _ _ _ _ w1 HF.out hdl hwl)
  obtain ⟨c0, c1, -, -⟩ := HP.out
  have h01 : w.heap.size ≤ w0.heap.size := by omega
  have h12 : w0.heap.size < w1.heap.size := by omega
  have h02 : w.heap.size < w1.heap.size := by omega
  clear hf hm hb0 hb1 hz0
  go_enter Try.func17, Try.ntmps17
  go_wp2_with fail
  refine HI.out.mono ?_; rintro r w2 ⟨b1, ok, rfl, hok⟩
  have HB12 := Lib.hid b1
  have HB2 := Lib.hid (HB1.out.trans (b1.mono (by omega)))
  have HOK := Lib.hid hok
  have HP2 := Lib.hid (HP.out.below b1 (by omega))
  have HR2 := Lib.hid (HR.out.below b1 (by omega))
  have HF2 := Lib.hid (HF.out.keep b1 (Nat.le_refl _))
  have HM2 := Lib.hid (HM.out.keep b1 (Nat.le_refl _))
  have hz2 := b1.size
  have HSP := Lib.hid (canMv_split (ds := ds) (wn := wn) (F := F) (M := M))
  clear b1 hok c0 c1 hw0 hw1 hz1 HI HF HM HP HR
  obtain ⟨c0, c1, -, -⟩ := HP2.out
  cases ok with
  | false =>
    obtain ⟨t0, t1, t2, t3⟩ := HR2.out
    obtain ⟨s0, s1, s2, s3⟩ := (HR2.out).set0 (.slice none 0 0)
    obtain ⟨v0, v1, -, -⟩ := ((HR2.out).set0 (.slice none 0 0)).set1 (.slice none 0 0)
    go_wp2
    refine bodyPost_ret (v := .tuple #[.agg #[.slice none 0 0, .slice none 0 0], .bool false]) (by simp [results, Try.results17, go_sem, v0, v1]) rfl ?_
    exact MfR.no (fun h => by have := HOK.out.2 (HSP.out.1 h).1; cases this) ((HB2.out.setCell (show w.heap.size ≤ w0.heap.size by omega) _).setCell (show w.heap.size ≤ w0.heap.size by omega) _)
  | true =>
    by_cases hml2 : M.length = ds.length
    case neg =>
      have hne : ¬ (M.length : Int) = (ds.length : Int) := by omega
      obtain ⟨t0, t1, t2, t3⟩ := HR2.out
      obtain ⟨s0, s1, s2, s3⟩ := (HR2.out).set0 (.slice none 0 0)
      obtain ⟨v0, v1, -, -⟩ := ((HR2.out).set0 (.slice none 0 0)).set1 (.slice none 0 0)
      go_wp2
      refine bodyPost_ret (v := .tuple #[.agg #[.slice none 0 0, .slice none 0 0], .bool false]) (by simp [results, Try.results17, go_sem, v0, v1]) rfl ?_
      exact MfR.no (fun h => hml2 h.2.1) ((HB2.out.setCell (show w.heap.size ≤ w0.heap.size by omega) _).setCell (show w.heap.size ≤ w0.heap.size by omega) _)
    case pos =>
      have hne : (M.length : Int) = (ds.length : Int) := by omega
      go_wp2_with fail
      refine (areMoves_any ma M ds.length mc _ hml2.symm hdl (fun W hW => ((HM2.out.keep hW (Nat.le_refl _)).row.1))).mono ?_
      rintro e w3 ⟨rfl, b3⟩
      have HB3 := Lib.hid (HB2.out.trans (b3.mono (by omega)))
      have HP3 := Lib.hid (HP2.out.below b3 (by omega))
      have HR3 := Lib.hid (HR2.out.below b3 (by omega))
      have HF3 := Lib.hid (HF2.out.keep b3 (Nat.le_refl _))
      have HM3 := Lib.hid (HM2.out.keep b3 (Nat.le_refl _))
      have hz3 := b3.size
      clear b3 c0 c1 HP2 HR2 HF2 HM2
      cases hmv : movB M with
      | false =>
        obtain ⟨t0, t1, t2, t3⟩ := HR3.out
        obtain ⟨s0, s1, s2, s3⟩ := (HR3.out).set0 (.slice none 0 0)
        obtain ⟨v0, v1, -, -⟩ := ((HR3.out).set0 (.slice none 0 0)).set1 (.slice none 0 0)
        go_wp2
        refine bodyPost_ret (v := .tuple #[.agg #[.slice none 0 0, .slice none 0 0], .bool false]) (by simp [results, Try.results17, go_sem, v0, v1]) rfl ?_
        exact MfR.no (fun h => by have := h.2.2.1; rw [hmv] at this; cases this) ((HB3.out.setCell (show w.heap.size ≤ w0.heap.size by omega) _).setCell (show w.heap.size ≤ w0.heap.size by omega) _)
      | true =>
        obtain ⟨c0, c1, -, -⟩ := HP3.out
        have HFO := Lib.hid (HOK.out.1 trivial)
        obtain ⟨q1, q2, q3, -, q5⟩ := form_ok HFO.out.1
        have HQ5 := Lib.hid q5
        have HMB := Lib.hid (fun k (hk : k < M.length) => mov_at hmv k hk)
        obtain ⟨gd, hgd, -⟩ := HF3.out.dat 0 (by omega)
        subst hgd
        have HCD : Hid (∀ W, Below w3.heap.size w3 W → Calls Try.prog 39 #[(.slice (some ⟨gd, 0, none⟩) ds.length dc)] W fun e w' => ∃ a c, e = .returned (.slice a ds.length c) ∧ Ints w' W.heap.size (.slice a ds.length c) ds ∧ Below W.heap.size W w') := fun W hW =>
          (cloneInt B gd _ dc ds W (HF3.out.d.keep hW (Nat.le_refl _)) hdl).mono fun e w' ⟨v, h1, h2, h3⟩ => by
            obtain ⟨a, c, rfl, -, -⟩ := h2.form
            exact ⟨a, c, h1, h2, h3⟩
        have HCW : Hid (∀ W, Below w3.heap.size w3 W → Calls Try.prog 40 #[.slice wa wn wc] W fun e w' => ∃ a c, e = .returned (.slice a wn c) ∧ Recs w' W.heap.size (.slice a wn c) wn F ∧ Below W.heap.size W w') := fun W hW =>
          (cloneW B wa wn wc F W (HF3.out.r.keep hW (Nat.le_refl _)) hwl).mono fun e w' ⟨v, h1, h2, h3⟩ => by
            obtain ⟨a, c, rfl, -, -⟩ := h2.form
            exact ⟨a, c, h1, h2, h3⟩
        have HSW : Hid (∀ W, Below w3.heap.size w3 W → (fun W => W.cell? ⟨w.heap.size, 0, none⟩ = some (.slice (some ⟨gd, 0, none⟩) ds.length dc) ∧ W.cell? ⟨w.heap.size, 1, none⟩ = some (.slice wa wn wc)) W) := fun W hW => ⟨(hW.cell (p := ⟨w.heap.size, 0, none⟩) (show w.heap.size < w3.heap.size by omega)).trans c0, (hW.cell (p := ⟨w.heap.size, 1, none⟩) (show w.heap.size < w3.heap.size by omega)).trans c1⟩
        clear q5 c0 c1
        go_wp2
        refine meetV ?X (MvFl ds.length ds wn F w3) ?h1 ?h2
        case h1 =>
          intro K1
          have B0 : Below w3.heap.size w3 w3.drew := (Below.refl _ _).drew
          have HB0 := Lib.hid B0
          clear B0
          refine wp_region_held_drew (S := (fun W => W.cell? ⟨w.heap.size, 0, none⟩ = some (.slice (some ⟨gd, 0, none⟩) ds.length dc) ∧ W.cell? ⟨w.heap.size, 1, none⟩ = some (.slice wa wn wc))) (by kernel_rfl) (HSW.out _ HB0.out) (fun hHeld => ?_)
          (refine takeL (i := 0) (v := ?_) rfl (by kernel_rfl) (by kernel_rfl) (by kernel_rfl) (fun _ _ _ h => h) (Or.inl ⟨by rfl, ?_⟩) (by assumption) ?_; rotate_left; focus ((intro w hSw; (try dsimp only at hSw); go_simp); (first | done | with_reducible rfl)); try simp only [Act.put, List.setIfInBounds_toArray, List.set_cons_zero, List.set_cons_succ])
          (refine takeL (i := 1) (v := ?_) rfl (by kernel_rfl) (by kernel_rfl) (by kernel_rfl) (fun _ _ _ h => h) (Or.inl ⟨by rfl, ?_⟩) (by assumption) ?_; rotate_left; focus ((intro w hSw; (try dsimp only at hSw); go_simp); (first | done | with_reducible rfl)); try simp only [Act.put, List.setIfInBounds_toArray, List.set_cons_zero, List.set_cons_succ])
          (refine takeL (i := 3) (v := ?_) rfl (by kernel_rfl) (by kernel_rfl) (by kernel_rfl) (fun _ _ _ h => h) (Or.inl ⟨by rfl, ?_⟩) (by assumption) ?_; rotate_left; focus ((intro w hSw; (try dsimp only at hSw); go_simp); (first | done | with_reducible rfl)); try simp only [Act.put, List.setIfInBounds_toArray, List.set_cons_zero, List.set_cons_succ])
          (refine takeL (i := 4) (v := ?_) rfl (by kernel_rfl) (by kernel_rfl) (by kernel_rfl) (fun _ _ _ h => h) (Or.inl ⟨by rfl, ?_⟩) (by assumption) ?_; rotate_left; focus ((intro w hSw; (try dsimp only at hSw); go_simp); (first | done | with_reducible rfl)); try simp only [Act.put, List.setIfInBounds_toArray, List.set_cons_zero, List.set_cons_succ])
          refine wpAnyH_ready (rs := [2, 7]) (by kernel_rfl) (by simp) ?_
          refine AllReadyH.cons rfl (fun K hK => ?_) (AllReadyH.cons rfl (fun K hK => ?_) AllReadyH.nil)
          · go_simp
            go_at_call 39
            with_reducible refine (HCD.out _ HB0.out).mono ?_
            rintro e wa' ⟨a2, c2, rfl, hia, hba⟩
            have HBA := Lib.hid (HB0.out.trans (hba.mono HB0.out.size))
            refine hK.out _ _ (HSW.out _ HBA.out) (fun hHeld => ?_)
            clear hK K
            try simp only [Act.put, List.setIfInBounds_toArray, List.set_cons_zero, List.set_cons_succ]
            refine wpAnyH_ready (rs := [5, 7]) (by kernel_rfl) (by simp) ?_
            refine AllReadyH.cons rfl (fun K hK => ?_) (AllReadyH.cons rfl (fun K hK => ?_) AllReadyH.nil)
            · go_simp
              go_at_call 40
              with_reducible refine (HCW.out _ HBA.out).mono ?_
              rintro e wb ⟨a3, c3, rfl, hib, hbb⟩
              have HBB := Lib.hid (HBA.out.trans (hbb.mono HBA.out.size))
              refine hK.out _ _ (HSW.out _ HBB.out) (fun hHeld => ?_)
              clear hK K
              try simp only [Act.put, List.setIfInBounds_toArray, List.set_cons_zero, List.set_cons_succ]
              (refine takeL (i := 6) (v := ?_) rfl (by kernel_rfl) (by kernel_rfl) (by kernel_rfl) (fun _ _ _ h => h) (Or.inl ⟨by rfl, ?_⟩) (by assumption) ?_; rotate_left; focus ((intro w hSw; (try dsimp only at hSw); go_simp); (first | done | with_reducible rfl)); try simp only [Act.put, List.setIfInBounds_toArray, List.set_cons_zero, List.set_cons_succ])
              refine wpAnyH_ready (rs := [7]) (by kernel_rfl) (by simp) ?_
              refine AllReadyH.cons rfl (fun K hK => ?_) AllReadyH.nil
              go_simp
              refine hK.out _ _ (HSW.out _ (HBB.out.alloc HBB.out.size _)) (fun hHeld => ?_)
              clear hK K
              try simp only [Act.put, List.setIfInBounds_toArray, List.set_cons_zero, List.set_cons_succ]
              have IA := ints_low (hia.keep hbb (Nat.le_refl _)) HB0.out.size
              have RB := hib.weak HBA.out.size
              have HH : Hid (MvFl ds.length ds wn F w3 wb.heap.size a2 c2 a3 c3 (wb.alloc (.cells #[.slice a2 ds.length c2, .slice a3 wn c3] 31))) := ⟨At2.new wb _ _ _, World.ownsRow.alloc IA _, ⟨RB.1, World.ownsRow.alloc RB.2 _⟩, row_ne_size IA (Nat.le_refl _), row_ne_size RB.2 (Nat.le_refl _), HBB.out.size, HBB.out.alloc HBB.out.size _⟩
              refine wpAnyH_ready (rs := [8]) (by kernel_rfl) (by simp) ?_
              refine AllReadyH.cons rfl (fun K hK => ?_) AllReadyH.nil
              go_simp
              refine hK.out _ _ (HSW.out _ HH.out.2.2.2.2.2.2) (fun hHeld => ?_)
              clear hK K
              try simp only [Act.put, List.setIfInBounds_toArray, List.set_cons_zero, List.set_cons_succ]
              refine wpAnyH_done (by kernel_rfl) ?_ _
              refine gen_endV _ (MvFl ds.length ds wn F w3 _ a2 c2 a3 c3) HH.out ?_
              intro Wn hW
              generalize wb.heap.size = po at hW ⊢
              exact K1.out po a2 c2 a3 c3 Wn hW
            · go_simp
              refine hK.out _ _ (HSW.out _ (HBA.out.alloc HBA.out.size _)) (fun hHeld => ?_)
              clear hK K
              try simp only [Act.put, List.setIfInBounds_toArray, List.set_cons_zero, List.set_cons_succ]
              have HBZ := Lib.hid (HBA.out.alloc HBA.out.size (.cells #[.slice none 0 0, .slice none 0 0] 31))
              refine wpAnyH_ready (rs := [5]) (by kernel_rfl) (by simp) ?_
              refine AllReadyH.cons rfl (fun K hK => ?_) AllReadyH.nil
              go_simp
              go_at_call 40
              with_reducible refine (HCW.out _ HBZ.out).mono ?_
              rintro e wb ⟨a3, c3, rfl, hib, hbb⟩
              have HBB := Lib.hid (HBZ.out.trans (hbb.mono HBZ.out.size))
              refine hK.out _ _ (HSW.out _ HBB.out) (fun hHeld => ?_)
              clear hK K
              try simp only [Act.put, List.setIfInBounds_toArray, List.set_cons_zero, List.set_cons_succ]
              (refine takeL (i := 6) (v := ?_) rfl (by kernel_rfl) (by kernel_rfl) (by kernel_rfl) (fun _ _ _ h => h) (Or.inl ⟨by rfl, ?_⟩) (by assumption) ?_; rotate_left; focus ((intro w hSw; (try dsimp only at hSw); go_simp); (first | done | with_reducible rfl)); try simp only [Act.put, List.setIfInBounds_toArray, List.set_cons_zero, List.set_cons_succ])
              have hAB := ((Below.refl wa'.heap.size wa').alloc (Nat.le_refl _) (.cells #[.slice none 0 0, .slice none 0 0] 31)).trans (hbb.mono (by simp))
              have IA := ints_low (hia.keep hAB (Nat.le_refl _)) HB0.out.size
              have RB := hib.weak HBZ.out.size
              have HT := Lib.hid ((At2.new wa' (.slice none 0 0) (.slice none 0 0) 31).below hbb (by simp))
              have HH : Hid (MvFl ds.length ds wn F w3 wa'.heap.size a2 c2 a3 c3 _) := MvFl.set HT.out IA RB (row_ne_size hia (Nat.le_refl _)) (row_ne_low hib.2 (by simp)) HBA.out.size HBB.out
              obtain ⟨t0, t1, t2, t3⟩ := HT.out
              obtain ⟨s0, s1, s2, s3⟩ := HT.out.set0 (.slice a2 ds.length c2)
              refine wpAnyH_ready (rs := [8]) (by kernel_rfl) (by simp) ?_
              refine AllReadyH.cons rfl (fun K hK => ?_) AllReadyH.nil
              go_simp
              refine hK.out _ _ (HSW.out _ HH.out.2.2.2.2.2.2) (fun hHeld => ?_)
              clear hK K
              try simp only [Act.put, List.setIfInBounds_toArray, List.set_cons_zero, List.set_cons_succ]
              refine wpAnyH_done (by kernel_rfl) ?_ _
              refine gen_endV _ (MvFl ds.length ds wn F w3 _ a2 c2 a3 c3) HH.out ?_
              intro Wn hW
              generalize wa'.heap.size = po at hW ⊢
              exact K1.out po a2 c2 a3 c3 Wn hW
          · go_simp
            refine hK.out _ _ (HSW.out _ (HB0.out.alloc HB0.out.size _)) (fun hHeld => ?_)
            clear hK K
            try simp only [Act.put, List.setIfInBounds_toArray, List.set_cons_zero, List.set_cons_succ]
            have HBZ : Hid (Below w3.heap.size w3 (w3.alloc (.cells #[.slice none 0 0, .slice none 0 0] 31)).drew) := ((Below.refl _ _).alloc (Nat.le_refl _) _).drew
            refine wpAnyH_ready (rs := [2]) (by kernel_rfl) (by simp) ?_
            refine AllReadyH.cons rfl (fun K hK => ?_) AllReadyH.nil
            go_simp
            go_at_call 39
            with_reducible refine (HCD.out _ HBZ.out).mono ?_
            rintro e wa' ⟨a2, c2, rfl, hia, hba⟩
            have HBA := Lib.hid (HBZ.out.trans (hba.mono HBZ.out.size))
            refine hK.out _ _ (HSW.out _ HBA.out) (fun hHeld => ?_)
            clear hK K
            try simp only [Act.put, List.setIfInBounds_toArray, List.set_cons_zero, List.set_cons_succ]
            refine wpAnyH_ready (rs := [5]) (by kernel_rfl) (by simp) ?_
            refine AllReadyH.cons rfl (fun K hK => ?_) AllReadyH.nil
            go_simp
            go_at_call 40
            with_reducible refine (HCW.out _ HBA.out).mono ?_
            rintro e wb ⟨a3, c3, rfl, hib, hbb⟩
            have HBB := Lib.hid (HBA.out.trans (hbb.mono HBA.out.size))
            refine hK.out _ _ (HSW.out _ HBB.out) (fun hHeld => ?_)
            clear hK K
            try simp only [Act.put, List.setIfInBounds_toArray, List.set_cons_zero, List.set_cons_succ]
            (refine takeL (i := 6) (v := ?_) rfl (by kernel_rfl) (by kernel_rfl) (by kernel_rfl) (fun _ _ _ h => h) (Or.inl ⟨by rfl, ?_⟩) (by assumption) ?_; rotate_left; focus ((intro w hSw; (try dsimp only at hSw); go_simp); (first | done | with_reducible rfl)); try simp only [Act.put, List.setIfInBounds_toArray, List.set_cons_zero, List.set_cons_succ])
            have IA := ints_low (hia.keep hbb (Nat.le_refl _)) HBZ.out.size
            have RB := hib.weak HBA.out.size
            have hzz := hba.size
            have HT := Lib.hid ((((At2.new w3 (.slice none 0 0) (.slice none 0 0) 31).drew).below hba (by simp)).below hbb (by simp at hzz; omega))
            have HH : Hid (MvFl ds.length ds wn F w3 w3.heap.size a2 c2 a3 c3 _) := MvFl.set HT.out IA RB (row_ne_low hia (by simp)) (row_ne_low hib.2 (by simp at hzz; omega)) (Nat.le_refl _) HBB.out
            obtain ⟨t0, t1, t2, t3⟩ := HT.out
            obtain ⟨s0, s1, s2, s3⟩ := HT.out.set0 (.slice a2 ds.length c2)
            refine wpAnyH_ready (rs := [8]) (by kernel_rfl) (by simp) ?_
            refine AllReadyH.cons rfl (fun K hK => ?_) AllReadyH.nil
            go_simp
            refine hK.out _ _ (HSW.out _ HH.out.2.2.2.2.2.2) (fun hHeld => ?_)
            clear hK K
            try simp only [Act.put, List.setIfInBounds_toArray, List.set_cons_zero, List.set_cons_succ]
            refine wpAnyH_done (by kernel_rfl) ?_ _
            refine gen_endV _ (MvFl ds.length ds wn F w3 _ a2 c2 a3 c3) HH.out ?_
            intro Wn hW
            generalize w3.heap.size = po at hW ⊢
            exact K1.out po a2 c2 a3 c3 Wn hW
        case h2 =>
          intro po a2 c2 a3 c3 W hW
          have HW0 := Lib.hid hW
          have hbW := hW.2.2.2.2.2.2
          have HBW0 := Lib.hid hbW
          have hpo := hW.2.2.2.2.2.1
          have hz3W := hbW.size
          have HR4 := Lib.hid (HR3.out.below hbW (show w0.heap.size < w3.heap.size by omega))
          obtain ⟨c0, c1, -, -⟩ := HP3.out.below hbW (show w.heap.size < w3.heap.size by omega)
          clear hW hbW
          go_wp2
          go_loopw [36] (fun i wr => ∃ k : Nat, k ≤ wn ∧ i = .int .i64 (k : Int) ∧ Hid (MvFl ds.length ds wn (mvP M F k) w3 po a2 c2 a3 c3 wr)) (fun i _ => wn - (intOf i).toNat)
          case atStart => exact ⟨0, Nat.zero_le _, rfl, by rw [mvP_zero]; exact HW0⟩
          case round =>
            obtain ⟨k, hk, rfl, HO⟩ := hrel
            have HBW : Hid (Below w3.heap.size w3 wr) := HO.out.2.2.2.2.2.2
            have hszr := HBW.out.size
            by_cases hlt : k < wn
            · have hltI : (k : Int) < (wn : Int) := by omega
              have hk0 : (0 : Int) ≤ (k : Int) := by omega
              obtain ⟨gw, xi, yi, z, hgw, -, hgwl, ⟨e0, e1, e2⟩, x0, x1, x2⟩ := (HF3.out.r.keep HBW.out (Nat.le_refl _)).at k hlt
              subst hgw
              obtain ⟨⟨r1, r2⟩, ⟨r3, r4⟩, r5, r6⟩ := HQ5.out k hlt
              rw [e0] at r1 r2
              rw [e1] at r3 r4
              rw [e2] at r5 r6
              obtain ⟨xn, rfl⟩ : ∃ xn : Nat, xi = (xn : Int) := ⟨xi.toNat, by omega⟩
              obtain ⟨yn, rfl⟩ : ∃ yn : Nat, yi = (yn : Int) := ⟨yi.toNat, by omega⟩
              have lx : xn < M.length := by omega
              have ly : yn < M.length := by omega
              obtain ⟨gm, hgm, mx⟩ := (HM3.out.keep HBW.out (Nat.le_refl _)).row.1 xn lx
              obtain ⟨gm2, hgm2, my⟩ := (HM3.out.keep HBW.out (Nat.le_refl _)).row.1 yn ly
              subst hgm
              obtain rfl : gm = gm2 := by injection hgm2 with h; injection h
              obtain ⟨bx1, bx2⟩ := HMB.out xn lx
              obtain ⟨by1, by2⟩ := HMB.out yn ly
              obtain ⟨vx, hvx⟩ : ∃ v, M[xn] = v := ⟨_, rfl⟩
              obtain ⟨vy, hvy⟩ : ∃ v, M[yn] = v := ⟨_, rfl⟩
              rw [hvx] at mx bx1 bx2
              rw [hvy] at my by1 by2
              have hs1 : IntKind.i64.wrap (vy - vx) = vy - vx := IntWalk.i64_in _ (by omega)
              have hs2 : IntKind.i64.wrap (z + (vy - vx)) = z + (vy - vx) := IntWalk.i64_in _ (by omega)
              have HC : Hid (mvC M F k = z + (vy - vx)) := by
                show _ = _
                unfold mvC
                rw [e0, e1, e2]
                simp [List.getD_eq_getElem?_getD, lx, ly, hvx, hvy]
                omega
              have HSET : Hid ((mvP M F k).set (k * 3 + 2) (z + (vy - vx)) = mvP M F (k + 1)) := by
                show _ = _
                rw [← HC.out]
                exact mvP_set M F wn k HF3.out.r.1 hlt
              have hgz := mvP_get M F wn k HF3.out.r.1 hlt
              rw [e2] at hgz
              have hR := HO.out.2.2.1
              obtain ⟨a', c', hv', -, kk⟩ := hR.form
              obtain ⟨g3, hg3, hg3l, hg3s, cz, fz⟩ := kk (k * 3 + 2) (by rw [hR.1]; omega)
              obtain ⟨rfl, -⟩ : a3 = a' ∧ c3 = c' := by simp only [Value.slice.injEq] at hv'; exact ⟨hv'.1, hv'.2.2⟩
              subst hg3
              have hcz : (mvP M F k)[k * 3 + 2]'(by rw [hR.1]; omega) = z := by
                rw [← hgz, List.getD_eq_getElem?_getD, List.getElem?_eq_getElem (by rw [hR.1]; omega)]
                rfl
              rw [hcz] at cz
              clear hcz
              clear kk hv' hgz hR
              have hne3 : g3 ≠ po := fun e => HO.out.2.2.2.2.1 (by rw [← e]; rfl)
              have HO2 : Hid (MvFl ds.length ds wn (mvP M F k) w3 po a2 c2 (some ⟨g3, 0, none⟩) c3 (wr.alloc (.cells #[.int .i64 (xn : Int), .int .i64 (yn : Int), .int .i64 z] 62))) := MvFl.alloc HO.out _
              have m0 : (wr.alloc (.cells #[.int .i64 (xn : Int), .int .i64 (yn : Int), .int .i64 z] 62)).cell? ⟨wr.heap.size, 0, none⟩ = some (.int .i64 (xn : Int)) := by simp [go_sem]
              have m1 : (wr.alloc (.cells #[.int .i64 (xn : Int), .int .i64 (yn : Int), .int .i64 z] 62)).cell? ⟨wr.heap.size, 1, none⟩ = some (.int .i64 (yn : Int)) := by simp [go_sem]
              have mx2 := cell_alloc_kept (o := .cells #[.int .i64 (xn : Int), .int .i64 (yn : Int), .int .i64 z] 62) mx
              have my2 := cell_alloc_kept (o := .cells #[.int .i64 (xn : Int), .int .i64 (yn : Int), .int .i64 z] 62) my
              have cz2 := cell_alloc_kept (o := .cells #[.int .i64 (xn : Int), .int .i64 (yn : Int), .int .i64 z] 62) cz
              have fz2 : (wr.alloc (.cells #[.int .i64 (xn : Int), .int .i64 (yn : Int), .int .i64 z] 62)).frozen? ⟨g3, k * 3 + 2, none⟩ = false := (((Below.refl wr.heap.size wr).alloc (Nat.le_refl _) _).frozen (p := ⟨g3, k * 3 + 2, none⟩) hg3s).trans fz
              have lxI : (xn : Int) < (M.length : Int) := by omega
              have lyI : (yn : Int) < (M.length : Int) := by omega
              have lxd : xn < ds.length := by omega
              have lyd : yn < ds.length := by omega
              have lx0 : (0 : Int) ≤ (xn : Int) := by omega
              have ly0 : (0 : Int) ≤ (yn : Int) := by omega
              clear e0 e1 e2 r1 r2 r3 r4 r5 r6 bx1 bx2 by1 by2 hvx hvy cz fz
              go_wp2
              obtain ⟨W2, hW2⟩ : ∃ W2, wr.alloc (.cells #[.int .i64 (xn : Int), .int .i64 (yn : Int), .int .i64 z] 62) = W2 := ⟨_, rfl⟩
              rw [hW2] at HO2 m0 m1 mx2 my2 cz2 fz2 ⊢
              obtain ⟨d0, d1, -, -⟩ := HO2.out.1
              clear hW2 x0 x1 x2 mx my c0 c1
              refine wp_quiet_tail 20 (by kernel_rfl) (by kernel_rfl) ?_
              simp only [List.take_succ_cons, List.take_zero, List.drop_succ_cons, List.drop_zero]
              repeat go_big_quiet_step (fail)
              refine wpQuiet_nil ?_
              rintro _ ⟨nq, rfl⟩
              have HO3 := Lib.hid ((HO2.out.drewN nq).put (k * 3 + 2) (z + (vy - vx)))
              rw [HSET.out] at HO3
              clear d0 d1 m0 m1 mx2 my2
              go_wp2
              go_roundw
              case rel => exact ⟨k + 1, by omega, by go_num, HO3⟩
              case measure => simp [intOf]; omega
            · obtain rfl : k = wn := by omega
              have hltz : ¬ (k : Int) < (k : Int) := by omega
              rw [mvP_end M F k HF3.out.r.1] at HO
              have HFL : Hid (Fl wr w3.heap.size a2 ds.length c2 ds a3 k c3 (mvF M F k)) := ⟨HO.out.2.1, rfl, HO.out.2.2.1⟩
              have HI2 := Lib.hid (implValid w3.heap.size a2 ds.length c2 ds a3 k c3 (mvF M F k) wr HFL.out hdl hwl)
              obtain ⟨d0, d1, -, -⟩ := HO.out.1
              have HR5 := Lib.hid (HR3.out.below HBW.out (show w0.heap.size < w3.heap.size by omega))
              have HA5 := Lib.hid HO.out.1
              have hpo5 := HA5.out.lt
              have HIF := Lib.hid (canMv_iff (M := M) HFO.out)
              have h03 : w0.heap.size < w3.heap.size := by omega
              clear HO
              go_wp2_with fail
              refine HI2.out.mono ?_; rintro r w5 ⟨b5, ok, rfl, hok⟩
              have HOK5 := Lib.hid hok
              have HB5 := Lib.hid (HB3.out.trans ((HBW.out.trans (b5.mono hszr)).mono (by omega)))
              have HR6 := Lib.hid (HR5.out.below b5 (by omega))
              have HFL6 := Lib.hid (HFL.out.keep b5 (Nat.le_refl _))
              obtain ⟨g0, g1, -, -⟩ := HA5.out.below b5 hpo5
              clear b5 hok d0 d1
              cases ok with
              | false =>
                obtain ⟨t0, t1, t2, t3⟩ := HR6.out
                obtain ⟨s0, s1, s2, s3⟩ := (HR6.out).set0 (.slice none 0 0)
                obtain ⟨v0, v1, -, -⟩ := ((HR6.out).set0 (.slice none 0 0)).set1 (.slice none 0 0)
                go_wp2
                refine bodyPost_ret (v := .tuple #[.agg #[.slice none 0 0, .slice none 0 0], .bool false]) (by simp [results, Try.results17, go_sem, v0, v1]) rfl ?_
                exact MfR.no (fun h => by have := HOK5.out.2 (HIF.out.1 h.2.2.2); cases this) ((HB5.out.setCell (show w.heap.size ≤ w0.heap.size by omega) _).setCell (show w.heap.size ≤ w0.heap.size by omega) _)
              | true =>
                obtain ⟨t0, t1, t2, t3⟩ := HR6.out
                obtain ⟨s0, s1, s2, s3⟩ := HR6.out.set0 (.slice a2 ds.length c2)
                obtain ⟨v0, v1, -, -⟩ := (HR6.out.set0 (.slice a2 ds.length c2)).set1 (.slice a3 k c3)
                go_wp2
                refine bodyPost_ret (v := .tuple #[.agg #[.slice a2 ds.length c2, .slice a3 k c3], .bool true]) (by simp [results, Try.results17, go_sem, v0, v1]) rfl ?_
                refine ⟨(HB5.out.setCell (show w.heap.size ≤ w0.heap.size by omega) _).setCell (show w.heap.size ≤ w0.heap.size by omega) _, _, _, true, rfl, ⟨fun _ => ⟨HFO.out, hml2, hmv, HIF.out.2 (HOK5.out.1 (by simp))⟩, fun _ => rfl⟩, fun _ => ⟨?_, ?_⟩, fun e => by cases e⟩
                · exact ints_low (ints_set (ints_set HFL6.out.d _ _ h03) _ _ h03) (by omega)
                · exact (recs_set (recs_set HFL6.out.r _ _ h03) _ _ h03).weak (by omega)
end Go.Proofs.Ytlobloaabghceaa
