/- The walk through the states of a counter, on the side of the program. -/
import Derived.Test.YtomdoamfdidghabVisit
import Derived.Test.YtomdoamfdidghabPath
import Derived.Test.YtomdoamfdidghabCtrAt
import Derived.Carry
import Derived.Laws.EntriesVeiled
import Derived.Outline
namespace Go.Proofs.Ytomdoamfdidghab
open Go.RowKit Go.Maps
set_option linter.unusedVariables false
theorem Ints.snoc {w1 : World} {B : Nat} {v : Value} {l : List Int} {x : Int} (h : w1.ownsRow B 2 1 v (l.length + 1) (l.map (Value.int .i64) ++ [.int .i64 x])) : Ints w1 B v (l ++ [x]) := by
  unfold Ints; rw [List.map_append, List.length_append]; exact h
theorem Ints.grown {w w' : World} {B : Nat} {v : Value} {l : List Int} {row : Option Nat} (h : Ints w B v l) (hg : w.grownBy w' row) (hne : v.ownBlock = none ∨ v.ownBlock ≠ row) : Ints w' B v l := World.ownsRow.kept h hg hne
theorem Ints.lower {w : World} {B B' : Nat} {v : Value} {l : List Int} (h : Ints w B v l) (hB : B' ≤ B) : Ints w B' v l := by
  rcases h with ⟨h1, ⟨rfl, hn⟩ | ⟨g, cap, cur, rfl, hg, hh, hc, hm, hs, ht⟩⟩
  · exact ⟨h1, .inl ⟨rfl, hn⟩⟩
  · exact ⟨h1, .inr ⟨g, cap, cur, rfl, Nat.le_trans hB hg, hh, hc, hm, hs, ht⟩⟩
def slLen : Value → Nat
  | .slice _ n _ => n
  | _ => 0
set_option maxRecDepth 100000 in
theorem newWalker_any (fn : Fn) (cs ds : Array Value) (w : World) :
    Calls Try.prog 35 #[.func fn cs ds] w fun e w' => ∃ b, e = .returned (.agg #[.func fn cs ds, .map (some b)]) ∧ w.heap.size ≤ b ∧ Vis w' b 0 [] ∧ Below w.heap.size w w' := by
  have hmm := @run_makeMap Try.prog
  go_enter Try.func35, Try.ntmps35
  go_wp2
  refine bodyPost_ret (v := .agg #[.func fn cs ds, .map (some (w.heap.size + 1))]) (by simp [results, Try.results35, go_sem]) rfl ⟨_, rfl, by omega, ?_, ?_⟩
  · have := Vis.made (w.alloc (.cells #[.func fn cs ds, .map (some (w.heap.size + 1))] 53)); simpa using this
  · exact (((Below.refl _ _).alloc (Nat.le_refl _) _).alloc (by simp) _)

theorem row_get {N : List Int} {x : Int} (hx : 0 ≤ x ∧ x < (N.length : Int)) : ∃ (y : Nat) (h : y < N.length), x = (y : Int) ∧ nx N x = N[y] := by
  obtain ⟨y, rfl⟩ := Int.eq_ofNat_of_zero_le hx.1
  have hy : y < N.length := by omega
  refine ⟨y, hy, rfl, ?_⟩
  unfold nx
  rw [List.getD_eq_getElem?_getD]
  simp [hy]

set_option maxHeartbeats 1000000 in
set_option maxRecDepth 100000 in
theorem walk_any (bits : Int) (a : Option Addr) (n cap : Nat) (N : List Int) (B bm m : Nat) (S : List Int) (x : Int) (w : World) (hn : n = N.length) (hN : N.length ≤ 256) (hin : InN N) (hS : ∀ v ∈ S, 0 ≤ v ∧ v < (N.length : Int)) (hSn : S.Nodup) (hm : m ≤ 1000) (hx : 0 ≤ x ∧ x < (N.length : Int))
    (hr : RowOf w a N) (hlt : ∀ g, a = some ⟨g, 0, none⟩ → g < B) (hB : B ≤ bm) (hv : Vis w bm m S) :
    Calls Try.prog 36 #[.agg #[(.func (.func 29) #[.agg #[.int .i64 bits, .slice a n cap]] #[]), .map (some bm)], .int .i64 x] w fun e w' => ∃ (k : Nat) (v : Value), (S ++ pth N x k).Nodup ∧ itr N x k ∈ S ++ pth N x k ∧ e = .returned (.tuple #[v, .int .i64 (itr N x k)]) ∧ Ints w' w.heap.size v (pth N x k) ∧ Vis w' bm (m + k) (S ++ pth N x k) ∧ Below B w w' := by
  obtain ⟨i0, hi, hz0, hz1, hz2⟩ := info_parts info_i64
  have hbm := hv.lt
  have HAT0 := Lib.hid (At2.new w (.func (.func 29) #[.agg #[.int .i64 bits, .slice a n cap]] #[]) (.map (some bm)) 53)
  have HV0 := Lib.hid hv
  have HR := Lib.hid hr
  have HLT := Lib.hid hlt
  have HIN := Lib.hid hin
  have HS := Lib.hid hS
  have HX := Lib.hid hx
  have HNN := Lib.hid hn
  have HSN := Lib.hid hSn
  clear hv hr hlt hin hS hx hn hSn
  go_enter Try.func36, Try.ntmps36
  go_wp2
  go_loopw [1, 6] (fun x1 v wr => ∃ k : Nat, x1 = .int .i64 (itr N x k) ∧ Ints wr (w.heap.size + 1) v (pth N x k) ∧ (S ++ pth N x k).Nodup ∧ Vis wr bm (m + k) (S ++ pth N x k) ∧ Below B w wr ∧ At2 wr w.heap.size (.func (.func 29) #[.agg #[.int .i64 bits, .slice a n cap]] #[]) (.map (some bm)) ∧ w.heap.size + 1 ≤ wr.heap.size) (fun _ v _ => N.length + 1 - slLen v)
  case atStart => exact ⟨0, rfl, Ints.nil _ _, by rw [pth_zero, List.append_nil]; exact HSN.out, by rw [pth_zero, List.append_nil]; exact HV0.out.below ((Below.refl _ _).alloc (Nat.le_refl _) _) hbm, (Below.refl _ _).alloc (by omega) _, HAT0.out, by simp⟩
  case round =>
    obtain ⟨k, rfl, hints, hnd, hvis, hb, hat, hsz⟩ := hrel
    have hxr := itr_in HIN.out HX.out k
    have hlen : S.length + k ≤ N.length := by
      have := nodup_le N.length _ hnd (fun v hv => by
        rcases List.mem_append.1 hv with h | h
        · exact HS.out v h
        · obtain ⟨i, _, rfl⟩ := (pth_mem ..).1 h
          exact itr_in HIN.out HX.out i)
      simpa [pth_length] using this
    obtain ⟨yn, hyn, hy, hnx⟩ := row_get hxr
    have HSUC := Lib.hid (pth_succ N x k)
    have HIT : Hid (itr N x (k + 1) = N[yn]) := Lib.hid hnx
    have HL := Lib.hid (pth_length N x k)
    have HY := Lib.hid hy
    have hlook := hvis.look (itr N x k) (WalkArith.wf_i64 (by omega))
    have HND := Lib.hid hnd
    have HVIS := Lib.hid hvis
    have HB := Lib.hid hb
    have HAT := Lib.hid hat
    have HINTS := Lib.hid hints
    clear hnd hvis hb hat hxr hnx
    by_cases hmem : itr N x k ∈ S ++ pth N x k
    · rw [decide_eq_true hmem] at hlook
      have HM := Lib.hid hmem
      obtain ⟨c0, c1, f0, f1⟩ := HAT.out
      clear hmem hints hy
      go_wp2
      go_ret2
      exact ⟨k, _, HND.out, HM.out, rfl, HINTS.out.lower (by omega), HVIS.out, HB.out⟩
    · rw [decide_eq_false hmem] at hlook
      have HND2 := Lib.hid (show (S ++ pth N x (k + 1)).Nodup by
        rw [HSUC.out, ← List.append_assoc, List.nodup_append]
        exact ⟨HND.out, by simp, fun u hu v hv => by simp at hv; rw [hv]; exact fun e => hmem (e ▸ hu)⟩)
      clear hmem
      have HEE := Lib.hid (show S ++ pth N x (k + 1) = (S ++ pth N x k) ++ [itr N x k] by rw [HSUC.out, List.append_assoc])
      obtain ⟨av, cv, rfl, -, hform⟩ := hints.form
      have hge : ∀ g, (Value.slice av (pth N x k).length cv).ownBlock = some g → w.heap.size + 1 ≤ g := fun g e => (World.ownsRow.lt hints g e).1
      have HGE := Lib.hid hge
      clear hge hform
      rw [HY.out] at hlook HEE ⊢
      rw [HL.out] at HINTS HGE hints ⊢
      obtain ⟨D, hD, hown, hda⟩ := HVIS.out
      have HDA := Lib.hid hda
      obtain ⟨c0, c1, f0, f1⟩ := HAT.out
      obtain ⟨g, hag, hcell⟩ := HR.out yn hyn
      have hgB := HLT.out g hag
      obtain ⟨z, hz⟩ : ∃ z, N[yn] = z := ⟨_, rfl⟩
      rw [hz] at hcell HIT
      have HCELL := Lib.hid hcell
      subst hag
      clear hda hy hcell hz hints
      go_wp2_with (first | (at_mapUpdate; refine wpList_mapUpdate_own _ rfl _ _ _ 51 rfl 2 4 vkey Try.underlying51 _ bm (m + k) _ rfl hown (by unfold maxLen; omega) _ _ _ rfl rfl (keyOf_int_mk Try.underlying2 (WalkArith.wf_i64 (by omega))) _ [] (plainElem_bool Try.underlying4 true) ?_; intro w1 hown1 hgrow1; have HV1 := Lib.hid (Vis.put hD HDA.out hown1); have HI1 := Lib.hid (HINTS.out.grown hgrow1 (.inr (fun e => by have := HGE.out bm e; omega))); have HA1 := Lib.hid (HAT.out.grown hgrow1 (by intro e; injection e with e; omega)); have HB1 := Lib.hid (HB.out.grown hgrow1 (by omega) (fun j e => by injection e with e; omega)); have hs1 := hgrow1.size; clear hown hown1 hgrow1 hD c0 c1 f0 f1 hlook) | (at_builtin; refine wpList_append_own _ rfl _ _ 22 rfl (w.heap.size + 1) 2 i0 (.int .i64 0) 1 8 Try.underlying22 hi hz0 hz1 hz2 rfl (by decide) _ _ _ rfl (World.ownsRow.alloc HI1.out _) ⟨w1.heap.size, 0, none⟩ 1 1 [.int .i64 (yn : Int)] rfl rfl (cell_one_new _ _ _) (by simp [Value.oneCell']) (by unfold maxLen; rw [HL.out]; omega) (by rw [HL.out]; omega) (by simp; omega) ?_; intro v2 w2 hown2 hgrow2 _; have hr2 := Ints.snoc hown2; have HA2 := Lib.hid ((HA1.out.alloc (.cells #[.int .i64 (yn : Int)] 2)).grown hgrow2 (fun e => by have := HGE.out _ e.symm; omega)); have HV2 := Lib.hid ((HV1.out.below ((Below.refl _ _).alloc (Nat.le_refl _) (.cells #[.int .i64 (yn : Int)] 2)) (by omega)).grown hgrow2 (fun e => by have := HGE.out _ e.symm; omega)); have HB2 := Lib.hid ((HB1.out.alloc (by omega) (.cells #[.int .i64 (yn : Int)] 2)).grown hgrow2 (by simp; omega) (fun j e => by have := HGE.out _ e; omega)); have hs2 := hgrow2.size; simp at hs2; obtain ⟨c0, c1, f0, f1⟩ := HA2.out; have HI2 := Lib.hid hr2; clear hown2 hgrow2 hr2))
      have hc2 := (HB2.out.cell (p := ⟨g, yn, none⟩) hgB).trans HCELL.out
      refine (after_any bits z g n cap yn w2 (by rw [HNN.out]; exact hyn) (by rw [HNN.out]; exact hN) (by omega) hc2).mono ?_
      rintro e w3 ⟨rfl, hb3⟩
      have HA3 := Lib.hid (HA2.out.below hb3 HA2.out.lt)
      have HV3 := Lib.hid (HV2.out.below hb3 HV2.out.lt)
      have HB3 := Lib.hid (HB2.out.trans (hb3.mono (by omega)))
      have hs3 := hb3.size
      have hi3 := HI2.out.keep hb3 (Nat.le_refl _)
      obtain ⟨av2, cv2, rfl, -, -⟩ := hi3.form
      have HI3 := Lib.hid hi3
      clear hb3 hc2 hi3 c0 c1 f0 f1
      go_wp2
      go_roundw
      case rel => exact ⟨k + 1, by rw [HIT.out], by rw [HSUC.out, HY.out]; have h := HI3.out; rw [List.length_append] at h; exact h, HND2.out, by rw [HEE.out]; exact HV3.out, HB3.out, HA3.out, by omega⟩
      case measure => simp [slLen, pth_length]; omega

set_option maxRecDepth 100000 in
theorem index_at (a : Option Addr) (l : List Int) (n cap t : Nat) (x : Int) (w : World) (hn : n = l.length) (h : RowAt w a l) (hl : l.length ≤ maxLen) (ht : t < l.length) (hx : l[t] = x) (hno : ∀ j (hj : j < t), l[j]'(by omega) ≠ x) :
    Calls Try.prog 37 #[.slice a n cap, .int .i64 x] w fun e w' => e = .returned (.int .i64 (t : Int)) ∧ w = w' := by
  unfold maxLen at hl
  have HH := Lib.hid h
  have HN := Lib.hid hn
  have HX := Lib.hid hx
  have HNO := Lib.hid hno
  rw [← hn] at hl
  clear h hn hx hno
  go_enter Try.func37, Try.ntmps37
  go_wp2
  go_loop [5, 8] (fun _ i => ∃ k : Nat, k ≤ t ∧ i = .int .i64 (k : Int)) (fun _ i => n - (intOf i).toNat)
  case atStart => exact ⟨0, Nat.zero_le _, rfl⟩
  case round =>
    obtain ⟨k, hk, rfl⟩ := hrel
    have hlt : k < n := by have := HN.out; omega
    obtain ⟨g, rfl, hc⟩ := HH.out k (by omega)
    obtain ⟨y, hy⟩ : ∃ y, l[k]'(by omega) = y := ⟨_, rfl⟩
    rw [hy] at hc
    by_cases he : k = t
    · subst he
      have t1 : (x == y) = true := by rw [← hy, HX.out]; simp
      clear hy
      go_wp2
      go_ret
      exact ⟨rfl, rfl⟩
    · have t1 : (x == y) = false := by
        have := HNO.out k (by omega)
        rw [hy] at this
        simp; exact fun e => this e.symm
      clear hy
      go_wp2
      go_round
      case rel => exact ⟨k + 1, by omega, by go_num⟩
      case measure => simp [intOf]; omega

set_option maxHeartbeats 1000000 in
set_option maxRecDepth 100000 in
theorem route_any (bits : Int) (a : Option Addr) (n cap : Nat) (N : List Int) (x : Int) (w : World) (hn : n = N.length) (hN : N.length ≤ 256) (hin : InN N) (hx : 0 ≤ x ∧ x < (N.length : Int))
    (hr : RowOf w a N) (hlt : ∀ g, a = some ⟨g, 0, none⟩ → g < w.heap.size) :
    Calls Try.prog 20 #[.agg #[.int .i64 bits, .slice a n cap], .int .i64 x] w fun e w' => ∃ (k t : Nat) (v : Value), Stop N x k ∧ t < k ∧ itr N x t = itr N x k ∧ e = .returned (.tuple #[v, .int .i64 (t : Int)]) ∧ Ints w' w.heap.size v (pth N x k) ∧ Below w.heap.size w w' := by
  have HW := Lib.hid (fun (b : Nat) (w' : World) (hr : RowOf w' a N) (hB : w.heap.size ≤ b) (hv : Vis w' b 0 []) => walk_any bits a n cap N w.heap.size b 0 [] x w' hn hN hin (by simp) (by simp) (by omega) hx hr hlt hB hv)
  have HR := Lib.hid hr
  have HLT := Lib.hid hlt
  have HIN := Lib.hid hin
  have HX := Lib.hid hx
  clear hr hlt hin hx hn
  go_enter Try.func20, Try.ntmps20
  go_wp2_with fail
  refine (newWalker_any _ _ _ _).mono ?_
  rintro e w1 ⟨b, rfl, hb0, hv1, hb1⟩
  have HB1 := Lib.hid (((Below.refl w.heap.size w).alloc (Nat.le_refl _) (.cells #[.int .i64 bits, .slice a n cap] 28)).trans (hb1.mono (by simp)))
  have HR1 := Lib.hid (row_alloc HR.out HLT.out HB1.out (Nat.le_refl _))
  have hs1 := hb1.size
  simp at hs1 hb0
  clear hb1
  go_wp2_with fail
  refine (HW.out b w1 HR1.out (by omega) hv1).mono ?_
  rintro e w2 ⟨k, v, hnd, hmem, rfl, hi2, -, hb2⟩
  simp only [List.nil_append] at hnd hmem
  have hst : Stop N x k := ⟨hnd, hmem⟩
  obtain ⟨t, ht, hte, -⟩ := stop_tail hst
  obtain ⟨av, cv, rfl, hle, -⟩ := hi2.form
  have hrow := (hi2.row).1
  have HST := Lib.hid hst
  have HTE := Lib.hid hte
  have HI2 := Lib.hid hi2
  have HB2 := Lib.hid (HB1.out.trans hb2)
  have HIX := Lib.hid (index_at av (pth N x k) (pth N x k).length cv t (itr N x k) w2 rfl hrow hle (by rw [pth_length]; exact ht) (by rw [pth_get _ _ _ _ ht]; exact hte) (fun j hj => by rw [pth_get _ _ _ _ (by omega), ← hte]; exact pth_nodup_ne hnd hj ht))
  clear hnd hmem hst hte hi2 hb2 hrow hv1
  go_wp2_with fail
  refine HIX.out.mono ?_
  rintro e w' ⟨rfl, rfl⟩
  go_wp2
  go_ret2
  exact ⟨k, t, _, HST.out, ht, HTE.out, rfl, HI2.out.lower (by omega), HB2.out⟩
end Go.Proofs.Ytomdoamfdidghab
