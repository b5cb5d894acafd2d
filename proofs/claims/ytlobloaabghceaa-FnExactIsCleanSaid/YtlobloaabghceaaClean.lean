/- IsClean on the model's side. -/
import Derived.Test.YtlobloaabghceaaHasP
import Derived.Deep.RegionHeld3
namespace Go.Proofs.Ytlobloaabghceaa
open Go.RowKit Go.Shelf
set_option linter.unusedVariables false
set_option linter.unusedSimpArgs false

def usL (s : ByteArray) : List Int := edgesL 49 s.data.toList s.size
def esL (s : ByteArray) : List Int := endsL (s.size : Int) (usL s) (edgesL 48 s.data.toList s.size)
def hasW (s : ByteArray) (x y : Int) : Bool := hasL (s.size : Int) x y (usL s) (esL s)
theorem esL_len (s : ByteArray) (hw : waveB s.data.toList = true) : (esL s).length = (usL s).length := by
  have hbal : (edgesL 49 s.data.toList s.size).length = (edgesL 48 s.data.toList s.size).length ∨ (edgesL 49 s.data.toList s.size).length = (edgesL 48 s.data.toList s.size).length + 1 := by
    rcases edges_turn s (wave_all hw) s.size (Nat.le_refl _) with h | h
    · exact .inl h.2
    · exact .inr h.2
  exact endsL_len (s.size : Int) _ _ hbal
def cleanB (out a b : ByteArray) (i : Nat) : Bool := hasW a ((usL out).getD i 0) ((esL out).getD i 0) || hasW b ((usL out).getD i 0) ((esL out).getD i 0)

theorem takeL {P : Program} {md : Region.Mode} {l : List Oper} {Q : Exit → Act → World → Prop} {S : World → Prop} {i : Nat} {oi : Oper} {v : Value} {fuel : Nat} {listed : Array Bool} {a : Act} {w : World} (hi : l[i]? = some oi)
    (hs : Region.noSelect l.toArray = true) (hf : Region.free md l.toArray listed i = true) (hr : (Region.ready md l.toArray listed).contains i = true)
    (hQ : ∀ c a w, Q (.panic c) (a.put oi.dst v) w → Q (.panic c) a w) (hy : YieldsIf P l.toArray S oi v a) (hS : S w)
    (h : wpAnyH P md l.toArray Q S fuel (listed.setIfInBounds i true) (a.put oi.dst v) w) : wpAnyH P md l.toArray Q S (fuel + 1) listed a w :=
  wpAnyH_take (by simpa using hi) hs hf hr hQ hy hS h
def DnC (wr W : World) : Prop := Below wr.heap.size wr W
theorem DnC.dr {wr W : World} (h : DnC wr W) : DnC wr W.drew := ⟨h.os, h.tape, h.output, h.size, h.block⟩
theorem DnC.call {wr W W' : World} (h : DnC wr W) (hb : Below W.heap.size W W') : DnC wr W' := Below.trans h (hb.mono h.size)
theorem meetC {G : Prop} (X : World → Prop) (F : World → Prop) (h1 : Hid (∀ W, F W → X W) → G) (h2 : ∀ W, F W → X W) : G := h1 (Lib.hid h2)
theorem gen_endC {K : Act → World → Prop} {Q : Exit → Act → World → Prop} {E : Exit} {A : Act} (W0 : World) (F : World → Prop) (h0 : F W0) (k : ∀ W, F W → Exit.then K Q E A W) : Exit.then K Q E A W0 := k W0 h0
set_option maxHeartbeats 800000 in
set_option maxRecDepth 100000 in
theorem specClean (s a b : ByteArray) (w : World) (hs : s.size ≤ 400) (hw : waveB s.data.toList = true) (ha : a.size ≤ 400) (hwa : waveB a.data.toList = true) (hb : b.size ≤ 400) (hwb : waveB b.data.toList = true) :
    Calls Try.prog 24 #[.string s, .string a, .string b] w fun e w' => e = .returned (.bool ((List.range (usL s).length).all (cleanB s a b))) ∧ Below w.heap.size w w' := by
  have hel := esL_len s hw
  have HF : Hid (∀ w, Calls Try.prog 45 #[.string s] w fun e W' => ∃ v1 v2, e = .returned (.tuple #[v1, v2]) ∧ Ints W' w.heap.size v1 (usL s) ∧ Ints W' w.heap.size v2 (esL s) ∧ Below w.heap.size w W') := fun w => specPul s w hs
  have HHA : Hid (∀ x y w, Calls Try.prog 49 #[.string a, .int .i64 x, .int .i64 y] w fun e w' => e = .returned (.bool (hasW a x y)) ∧ Below w.heap.size w w') := fun x y w => specHas x y a w ha hwa
  have HHB : Hid (∀ x y w, Calls Try.prog 49 #[.string b, .int .i64 x, .int .i64 y] w fun e w' => e = .returned (.bool (hasW b x y)) ∧ Below w.heap.size w w') := fun x y w => specHas x y b w hb hwb
  have hCB : Hid (∀ i, cleanB s a b i = (hasW a ((usL s).getD i 0) ((esL s).getD i 0) || hasW b ((usL s).getD i 0) ((esL s).getD i 0))) := fun i => rfl
  obtain ⟨us, hus⟩ : ∃ us, usL s = us := ⟨_, rfl⟩
  obtain ⟨es, hes⟩ : ∃ es, esL s = es := ⟨_, rfl⟩
  rw [hus] at HF hel hCB ⊢
  rw [hes] at HF hel hCB
  clear hus hes hw hwa hwb
  go_enter Try.func24, Try.ntmps24
  go_wp2_with fail
  refine (HF.out _).mono ?_; rintro e w2 ⟨v1, v2, rfl, i1, i2, b2⟩
  have HI1 := Lib.hid i1
  have HI2 := Lib.hid i2
  have HB2 := Lib.hid b2
  have hz2s := b2.size
  obtain ⟨a1, cap1, rfl, hm1, _⟩ := i1.form
  obtain ⟨a2, cap2, rfl, hm2, _⟩ := i2.form
  rw [hel]
  clear i1 i2 b2
  go_wp2
  go_loopw [9] (fun i wr => ∃ k : Nat, k ≤ us.length ∧ i = .int .i64 k ∧ Hid (∀ j, j < k → cleanB s a b j = true) ∧ Hid (Below w2.heap.size w2 wr)) (fun i _ => us.length - (intOf i).toNat)
  case atStart => exact ⟨0, Nat.zero_le _, rfl, Lib.hid (fun j hj => absurd hj (Nat.not_lt_zero _)), Lib.hid (Below.refl _ _)⟩
  case round =>
    obtain ⟨k, hk, rfl, HA, HBW⟩ := hrel
    by_cases hlt : k < us.length
    · have hltI : (k : Int) < (us.length : Int) := by omega
      have hlt2 : k < es.length := by omega
      obtain ⟨g1, rfl, hg1, hg1s, cu⟩ := (HI1.out.keep HBW.out (Nat.le_refl _)).at k hlt
      obtain ⟨g2, rfl, hg2, hg2s, ce⟩ := Ints.at (n := us.length) (cap := cap2) (a := a2) (l := es) (by have := HI2.out.keep HBW.out (Nat.le_refl _); rw [hel] at this; exact this) k (by omega)
      have HQ := Lib.hid (hCB.out k)
      obtain ⟨u, hu⟩ : ∃ u, us.getD k 0 = u := ⟨_, rfl⟩
      obtain ⟨d, hd⟩ : ∃ u, es.getD k 0 = u := ⟨_, rfl⟩
      rw [hu] at cu
      rw [hd] at ce
      have HQ : Hid (cleanB s a b k = (hasW a u d || hasW b u d)) := by show _ = _; rw [HQ.out, hu, hd]
      clear hu hd
      have HSTEP : Hid (cleanB s a b k = true → ∀ j, j < k + 1 → cleanB s a b j = true) := fun h j hj => by
        by_cases e : j = k
        · rw [e]; exact h
        · exact HA.out j (by omega)
      have HNO : Hid (cleanB s a b k = false → (List.range us.length).all (cleanB s a b) = false) := fun h => by
        rw [List.all_eq_false]; exact ⟨k, List.mem_range.2 hlt, by simp [h]⟩
      have hszr := HBW.out.size
      have hmx : us.length ≤ 9223372036854775807 := by have := hm1; simp only [maxLen] at this; omega
      have HA1 := Lib.hid (HHA.out u d)
      have HB1 := Lib.hid (HHB.out u d)
      have HCC : Hid (∀ W, DnC wr W → W.cell? ⟨g1, k, none⟩ = some (.int .i64 u) ∧ W.cell? ⟨g2, k, none⟩ = some (.int .i64 d)) := fun W hW => ⟨(hW.cell (p := ⟨g1, k, none⟩) hg1s).trans cu, (hW.cell (p := ⟨g2, k, none⟩) hg2s).trans ce⟩
      have hdn : DnC wr wr := Below.refl _ _
      cases q1 : hasW a u d with
      | true =>
        rw [q1] at HA1 HQ
        have HV := Lib.hid (HSTEP.out (by rw [HQ.out]; rfl))
        clear HQ HSTEP HNO q1
        go_wp2
        refine meetC ?X (fun W => DnC wr W) ?h1 ?h2
        case h1 =>
          intro K1
          refine wp_region_held_drew (S := (fun W => W.cell? ⟨g1, k, none⟩ = some (.int .i64 u) ∧ W.cell? ⟨g2, k, none⟩ = some (.int .i64 d) ∧ DnC wr W)) (by kernel_rfl) ?_ (fun hHeld => ?_)
          · (first | (go_split_ands; (refine ⟨(HCC.out _ ?_).1, (HCC.out _ ?_).2, ?_⟩ <;> ((repeat' (first | (with_reducible assumption) | (with_reducible refine DnC.dr ?_) | (with_reducible refine DnC.call ?_ hba) | (with_reducible refine DnC.call ?_ hbb))); done))))
          (refine takeL (i := 0) (v := ?_) rfl (by kernel_rfl) (by kernel_rfl) (by kernel_rfl) (fun _ _ _ h => h) (Or.inl ⟨by rfl, ?_⟩) (by assumption) ?_; rotate_left; focus ((intro w hSw; (try dsimp only at hSw); go_simp); (first | done | with_reducible rfl)); try simp only [Act.put, List.setIfInBounds_toArray, List.set_cons_zero, List.set_cons_succ])
          (refine takeL (i := 1) (v := ?_) rfl (by kernel_rfl) (by kernel_rfl) (by kernel_rfl) (fun _ _ _ h => h) (Or.inl ⟨by rfl, ?_⟩) (by assumption) ?_; rotate_left; focus ((intro w hSw; (try dsimp only at hSw); go_simp); (first | done | with_reducible rfl)); try simp only [Act.put, List.setIfInBounds_toArray, List.set_cons_zero, List.set_cons_succ])
          (refine takeL (i := 2) (v := ?_) rfl (by kernel_rfl) (by kernel_rfl) (by kernel_rfl) (fun _ _ _ h => h) (Or.inl ⟨by rfl, ?_⟩) (by assumption) ?_; rotate_left; focus ((intro w hSw; (try dsimp only at hSw); go_simp); (first | done | with_reducible rfl)); try simp only [Act.put, List.setIfInBounds_toArray, List.set_cons_zero, List.set_cons_succ])
          (refine takeL (i := 3) (v := ?_) rfl (by kernel_rfl) (by kernel_rfl) (by kernel_rfl) (fun _ _ _ h => h) (Or.inl ⟨by rfl, ?_⟩) (by assumption) ?_; rotate_left; focus ((intro w hSw; (try dsimp only at hSw); go_simp); (first | done | with_reducible rfl)); try simp only [Act.put, List.setIfInBounds_toArray, List.set_cons_zero, List.set_cons_succ])
          (refine takeL (i := 4) (v := ?_) rfl (by kernel_rfl) (by kernel_rfl) (by kernel_rfl) (fun _ _ _ h => h) (Or.inl ⟨by rfl, ?_⟩) (by assumption) ?_; rotate_left; focus ((intro w hSw; (try dsimp only at hSw); go_simp); (first | done | with_reducible rfl)); try simp only [Act.put, List.setIfInBounds_toArray, List.set_cons_zero, List.set_cons_succ])
          (refine takeL (i := 5) (v := ?_) rfl (by kernel_rfl) (by kernel_rfl) (by kernel_rfl) (fun _ _ _ h => h) (Or.inl ⟨by rfl, ?_⟩) (by assumption) ?_; rotate_left; focus ((intro w hSw; (try dsimp only at hSw); go_simp); (first | done | with_reducible rfl)); try simp only [Act.put, List.setIfInBounds_toArray, List.set_cons_zero, List.set_cons_succ])
          (refine takeL (i := 6) (v := ?_) rfl (by kernel_rfl) (by kernel_rfl) (by kernel_rfl) (fun _ _ _ h => h) (Or.inl ⟨by rfl, ?_⟩) (by assumption) ?_; rotate_left; focus ((intro w hSw; (try dsimp only at hSw); go_simp); (first | done | with_reducible rfl)); try simp only [Act.put, List.setIfInBounds_toArray, List.set_cons_zero, List.set_cons_succ])
          (refine takeL (i := 7) (v := ?_) rfl (by kernel_rfl) (by kernel_rfl) (by kernel_rfl) (fun _ _ _ h => h) (Or.inl ⟨by rfl, ?_⟩) (by assumption) ?_; rotate_left; focus ((intro w hSw; (try dsimp only at hSw); go_simp); (first | done | with_reducible rfl)); try simp only [Act.put, List.setIfInBounds_toArray, List.set_cons_zero, List.set_cons_succ])
          (refine takeL (i := 8) (v := ?_) rfl (by kernel_rfl) (by kernel_rfl) (by kernel_rfl) (fun _ _ _ h => h) (Or.inl ⟨by rfl, ?_⟩) (by assumption) ?_; rotate_left; focus ((intro w hSw; (try dsimp only at hSw); go_simp); (first | done | with_reducible rfl)); try simp only [Act.put, List.setIfInBounds_toArray, List.set_cons_zero, List.set_cons_succ])
          refine wpAnyH_ready (rs := [9]) (by kernel_rfl) (by simp) ?_
          refine AllReadyH.cons rfl (fun K hK => ?_) AllReadyH.nil
          · go_simp
            (go_at_call 49; (with_reducible refine (HA1.out _).mono ?_); rintro e wa ⟨rfl, hba⟩)
            refine hK.out _ _ ?_ (fun hHeld => ?_)
            · (first | (go_split_ands; (refine ⟨(HCC.out _ ?_).1, (HCC.out _ ?_).2, ?_⟩ <;> ((repeat' (first | (with_reducible assumption) | (with_reducible refine DnC.dr ?_) | (with_reducible refine DnC.call ?_ hba) | (with_reducible refine DnC.call ?_ hbb))); done))))
            clear hK K
            try simp only [Act.put, List.setIfInBounds_toArray, List.set_cons_zero, List.set_cons_succ]
            (refine takeL (i := 10) (v := ?_) rfl (by kernel_rfl) (by kernel_rfl) (by kernel_rfl) (fun _ _ _ h => h) (Or.inl ⟨by rfl, ?_⟩) (by assumption) ?_; rotate_left; focus ((intro w hSw; (try dsimp only at hSw); go_simp); (first | done | with_reducible rfl)); try simp only [Act.put, List.setIfInBounds_toArray, List.set_cons_zero, List.set_cons_succ])
            (refine takeL (i := 11) (v := ?_) rfl (by kernel_rfl) (by kernel_rfl) (by kernel_rfl) (fun _ _ _ h => h) (Or.inl ⟨by rfl, ?_⟩) (by assumption) ?_; rotate_left; focus ((intro w hSw; (try dsimp only at hSw); go_simp); (first | done | with_reducible rfl)); try simp only [Act.put, List.setIfInBounds_toArray, List.set_cons_zero, List.set_cons_succ])
            (refine takeL (i := 12) (v := undef) rfl (by kernel_rfl) (by kernel_rfl) (by kernel_rfl) (fun _ _ _ h => h) (Or.inr ⟨by kernel_rfl, rfl⟩) (by assumption) ?_; try simp only [Act.put, List.setIfInBounds_toArray, List.set_cons_zero, List.set_cons_succ])
            (refine takeL (i := 13) (v := undef) rfl (by kernel_rfl) (by kernel_rfl) (by kernel_rfl) (fun _ _ _ h => h) (Or.inr ⟨by kernel_rfl, rfl⟩) (by assumption) ?_; try simp only [Act.put, List.setIfInBounds_toArray, List.set_cons_zero, List.set_cons_succ])
            (refine takeL (i := 14) (v := undef) rfl (by kernel_rfl) (by kernel_rfl) (by kernel_rfl) (fun _ _ _ h => h) (Or.inr ⟨by kernel_rfl, rfl⟩) (by assumption) ?_; try simp only [Act.put, List.setIfInBounds_toArray, List.set_cons_zero, List.set_cons_succ])
            (refine takeL (i := 15) (v := undef) rfl (by kernel_rfl) (by kernel_rfl) (by kernel_rfl) (fun _ _ _ h => h) (Or.inr ⟨by kernel_rfl, rfl⟩) (by assumption) ?_; try simp only [Act.put, List.setIfInBounds_toArray, List.set_cons_zero, List.set_cons_succ])
            (refine takeL (i := 16) (v := undef) rfl (by kernel_rfl) (by kernel_rfl) (by kernel_rfl) (fun _ _ _ h => h) (Or.inr ⟨by kernel_rfl, rfl⟩) (by assumption) ?_; try simp only [Act.put, List.setIfInBounds_toArray, List.set_cons_zero, List.set_cons_succ])
            (refine takeL (i := 17) (v := undef) rfl (by kernel_rfl) (by kernel_rfl) (by kernel_rfl) (fun _ _ _ h => h) (Or.inr ⟨by kernel_rfl, rfl⟩) (by assumption) ?_; try simp only [Act.put, List.setIfInBounds_toArray, List.set_cons_zero, List.set_cons_succ])
            (refine takeL (i := 18) (v := undef) rfl (by kernel_rfl) (by kernel_rfl) (by kernel_rfl) (fun _ _ _ h => h) (Or.inr ⟨by kernel_rfl, rfl⟩) (by assumption) ?_; try simp only [Act.put, List.setIfInBounds_toArray, List.set_cons_zero, List.set_cons_succ])
            (refine takeL (i := 19) (v := undef) rfl (by kernel_rfl) (by kernel_rfl) (by kernel_rfl) (fun _ _ _ h => h) (Or.inr ⟨by kernel_rfl, rfl⟩) (by assumption) ?_; try simp only [Act.put, List.setIfInBounds_toArray, List.set_cons_zero, List.set_cons_succ])
            (refine takeL (i := 20) (v := undef) rfl (by kernel_rfl) (by kernel_rfl) (by kernel_rfl) (fun _ _ _ h => h) (Or.inr ⟨by kernel_rfl, rfl⟩) (by assumption) ?_; try simp only [Act.put, List.setIfInBounds_toArray, List.set_cons_zero, List.set_cons_succ])
            (refine takeL (i := 21) (v := undef) rfl (by kernel_rfl) (by kernel_rfl) (by kernel_rfl) (fun _ _ _ h => h) (Or.inr ⟨by kernel_rfl, rfl⟩) (by assumption) ?_; try simp only [Act.put, List.setIfInBounds_toArray, List.set_cons_zero, List.set_cons_succ])
            (refine takeL (i := 22) (v := undef) rfl (by kernel_rfl) (by kernel_rfl) (by kernel_rfl) (fun _ _ _ h => h) (Or.inr ⟨by kernel_rfl, rfl⟩) (by assumption) ?_; try simp only [Act.put, List.setIfInBounds_toArray, List.set_cons_zero, List.set_cons_succ])
            (refine takeL (i := 23) (v := ?_) rfl (by kernel_rfl) (by kernel_rfl) (by kernel_rfl) (fun _ _ _ h => h) (Or.inl ⟨by rfl, ?_⟩) (by assumption) ?_; rotate_left; focus ((intro w hSw; (try dsimp only at hSw); go_simp); (first | done | with_reducible rfl)); try simp only [Act.put, List.setIfInBounds_toArray, List.set_cons_zero, List.set_cons_succ])
            refine wpAnyH_done (by kernel_rfl) ?_ _
            refine gen_endC _ (fun W => DnC wr W) ?_ ?_
            · go_split_ands
              (repeat' (first | (with_reducible assumption) | (with_reducible refine DnC.dr ?_) | (with_reducible refine DnC.call ?_ hba) | (with_reducible refine DnC.call ?_ hbb)))
            · intro Wn hW
              exact K1.out Wn hW
        case h2 =>
          intro W hW
          go_wp2
          go_roundw
          case rel => exact ⟨k + 1, by omega, by go_num, HV, Lib.hid (HBW.out.trans (hW.mono hszr))⟩
          case measure => simp [intOf]; omega
      | false =>
        rw [q1] at HA1 HQ
        cases q2 : hasW b u d with
        | true =>
          rw [q2] at HB1 HQ
          have HV := Lib.hid (HSTEP.out (by rw [HQ.out]; rfl))
          clear HQ HSTEP HNO q1 q2
          go_wp2
          refine meetC ?X2 (fun W => DnC wr W) ?h3 ?h4
          case h3 =>
            intro K1
            go_region_held3 (fun W => W.cell? ⟨g1, k, none⟩ = some (.int .i64 u) ∧ W.cell? ⟨g2, k, none⟩ = some (.int .i64 d) ∧ DnC wr W) (first | (go_split_ands; (refine ⟨(HCC.out _ ?_).1, (HCC.out _ ?_).2, ?_⟩ <;> ((repeat' (first | (with_reducible assumption) | (with_reducible refine DnC.dr ?_) | (with_reducible refine DnC.call ?_ hba) | (with_reducible refine DnC.call ?_ hbb))); done)))) (first | (go_at_call 49; (with_reducible refine (HA1.out _).mono ?_); rintro e wa ⟨rfl, hba⟩) | (go_at_call 49; (with_reducible refine (HB1.out _).mono ?_); rintro e wb ⟨rfl, hbb⟩))
            all_goals
              refine gen_endC _ (fun W => DnC wr W) ?_ ?_
              · go_split_ands
                (repeat' (first | (with_reducible assumption) | (with_reducible refine DnC.dr ?_) | (with_reducible refine DnC.call ?_ hba) | (with_reducible refine DnC.call ?_ hbb)))
              · intro Wn hW
                exact K1.out Wn hW
          case h4 =>
            intro W hW
            go_wp2
            go_roundw
            case rel => exact ⟨k + 1, by omega, by go_num, HV, Lib.hid (HBW.out.trans (hW.mono hszr))⟩
            case measure => simp [intOf]; omega
        | false =>
          rw [q2] at HB1 HQ
          have HV := Lib.hid (HNO.out (by rw [HQ.out]; rfl))
          clear HQ HSTEP HNO q1 q2
          go_wp2
          refine meetC ?X3 (fun W => DnC wr W) ?h5 ?h6
          case h5 =>
            intro K1
            go_region_held3 (fun W => W.cell? ⟨g1, k, none⟩ = some (.int .i64 u) ∧ W.cell? ⟨g2, k, none⟩ = some (.int .i64 d) ∧ DnC wr W) (first | (go_split_ands; (refine ⟨(HCC.out _ ?_).1, (HCC.out _ ?_).2, ?_⟩ <;> ((repeat' (first | (with_reducible assumption) | (with_reducible refine DnC.dr ?_) | (with_reducible refine DnC.call ?_ hba) | (with_reducible refine DnC.call ?_ hbb))); done)))) (first | (go_at_call 49; (with_reducible refine (HA1.out _).mono ?_); rintro e wa ⟨rfl, hba⟩) | (go_at_call 49; (with_reducible refine (HB1.out _).mono ?_); rintro e wb ⟨rfl, hbb⟩))
            all_goals
              refine gen_endC _ (fun W => DnC wr W) ?_ ?_
              · go_split_ands
                (repeat' (first | (with_reducible assumption) | (with_reducible refine DnC.dr ?_) | (with_reducible refine DnC.call ?_ hba) | (with_reducible refine DnC.call ?_ hbb)))
              · intro Wn hW
                exact K1.out Wn hW
          case h6 =>
            intro W hW
            go_wp2
            go_ret
            exact ⟨ret_bool (by rw [HV.out]), HB2.out.trans ((HBW.out.trans (hW.mono hszr)).mono hz2s)⟩
    · obtain rfl : k = us.length := by omega
      have HV : Hid ((List.range us.length).all (cleanB s a b) = true) := by
        show _ = _; rw [List.all_eq_true]; intro j hj; exact HA.out j (List.mem_range.1 hj)
      go_wp2
      go_ret
      exact ⟨ret_bool (by rw [HV.out]), HB2.out.trans (HBW.out.mono hz2s)⟩
end Go.Proofs.Ytlobloaabghceaa
