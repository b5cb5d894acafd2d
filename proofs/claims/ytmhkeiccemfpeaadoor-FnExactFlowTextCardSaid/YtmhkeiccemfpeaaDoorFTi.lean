/- FlowText, the program's side. -/
import Derived.Test.YtmhkeiccemfpeaaDoorFTm
namespace Go.Proofs.YtmhkeiccemfpeaaDoor
open Go.RowKit
set_option linter.unusedVariables false
set_option linter.unusedSimpArgs false
theorem implFT_f (B : Nat) (da : Option Addr) (dn dc : Nat) (ds : List Int) (wa : Option Addr) (wn wc : Nat) (F : List Int) (w : World) (hf : Fl w B da dn dc ds wa wn wc F) (hdl : dn ≤ 1048576) (hwl : wn ≤ 1048576) (hv : ¬ FlowOk ds wn F) :
    Calls Tryd.prog 7 #[.agg #[.slice da dn dc, .slice wa wn wc]] w fun r w' => r = .returned (.tuple #[.string ⟨#[]⟩, .bool false]) ∧ Below w.heap.size w w' := by
  have hb0 : Below w.heap.size w (w.alloc (.cells #[.slice da dn dc, .slice wa wn wc] 31)) := (Below.refl _ _).alloc (Nat.le_refl _) _
  have HI := Lib.hid (implValid B da dn dc ds wa wn wc F _ (hf.keep hb0 (Nat.le_refl _)) hdl hwl)
  have HB0 := Lib.hid hb0
  clear hf hb0
  go_enter Tryd.func7, Tryd.ntmps7
  go_wp2_with fail
  refine HI.out.mono ?_; rintro r w1 ⟨hb1, ok, rfl, hok⟩
  have HB1 := Lib.hid (HB0.out.trans (hb1.mono HB0.out.size))
  obtain rfl : ok = false := by cases ok with | false => rfl | true => exact absurd (hok.1 rfl) hv
  clear hok hb1
  go_wp2
  go_ret2
  exact ⟨rfl, HB1.out⟩
set_option maxHeartbeats 16000000 in
set_option maxRecDepth 100000 in
theorem implFT_t (B : Nat) (da : Option Addr) (dn dc : Nat) (ds : List Int) (wa : Option Addr) (wn wc : Nat) (F : List Int) (w : World) (hf : Fl w B da dn dc ds wa wn wc F) (hdl : dn ≤ 1048576) (hwl : wn ≤ 1048576) (hv : FlowOk ds wn F) (hd : DoorW w) :
    Calls Tryd.prog 7 #[.agg #[.slice da dn dc, .slice wa wn wc]] w fun r w' => r = .returned (.tuple #[.string ⟨(flT ds F wn).toArray⟩, .bool true]) ∧ Below w.heap.size w w' := by
  obtain ⟨i0, hi, hz0, hz1, hz2⟩ := info_parts info_str
  have hb0 : Below w.heap.size w (w.alloc (.cells #[.slice da dn dc, .slice wa wn wc] 31)) := (Below.refl _ _).alloc (Nat.le_refl _) _
  have HP := Lib.hid (At2.new w (.slice da dn dc) (.slice wa wn wc) 31)
  have HF := Lib.hid (hf.keep hb0 (Nat.le_refl _))
  have HI := Lib.hid (implValid B da dn dc ds wa wn wc F _ HF.out hdl hwl)
  have HB0 := Lib.hid hb0
  have hlt0 : w.heap.size < (w.alloc (.cells #[.slice da dn dc, .slice wa wn wc] 31)).heap.size := by simp
  have HV := Lib.hid hv
  have HD := Lib.hid hd
  obtain ⟨hv1, hv2, hwn16, -, -⟩ := fl_at hv
  have HDN := Lib.hid hf.n
  have HTE : Hid (ansT ds = ⟨(ltx ds).toArray⟩) := ansT_yes (fl_okT hv).1 (fl_okT hv).2
  have HTO : Hid (okT ds = true) := (fl_okT hv).1
  have hlt := ltx_take_len (fl_okT hv).1 ds.length
  rw [List.take_length] at hlt
  clear hf hb0 hv hd
  go_enter Tryd.func7, Tryd.ntmps7
  go_wp2_with fail
  refine HI.out.mono ?_; rintro r w1 ⟨hb1, ok, rfl, hok⟩
  have HB1 := Lib.hid (HB0.out.trans (hb1.mono HB0.out.size))
  obtain rfl : ok = true := hok.2 HV.out
  have HP1 := Lib.hid (HP.out.below hb1 hlt0)
  have hlt1 : w.heap.size < w1.heap.size := Nat.lt_of_lt_of_le hlt0 hb1.size
  have HF1 := Lib.hid (HF.out.keep hb1 (Nat.le_refl _))
  have HLT := Lib.hid (implLT da dn dc ds w1 HDN.out HF1.out.d.arg (by omega) (HD.out.on HB1.out))
  rw [HTE.out, HTO.out] at HLT
  obtain ⟨p0, p1, _, _⟩ := HP1.out
  clear hb1 hok
  go_wp2_with fail
  refine HLT.out.mono ?_; rintro r w2 ⟨rfl, hb2⟩
  have HB2 := Lib.hid (HB1.out.trans (hb2.mono HB1.out.size))
  have HP2 := Lib.hid (HP1.out.below hb2 hlt1)
  have HR2 := Lib.hid (HF1.out.r.keep hb2 (Nat.le_refl _))
  have hlt2 : w.heap.size < w2.heap.size := Nat.lt_of_lt_of_le hlt1 hb2.size
  have hLs : (⟨(ltx ds).toArray⟩ : ByteArray).size ≤ 21 * 64 := hlt
  have HFT : Hid ((⟨(flT ds F wn).toArray⟩ : ByteArray) = (⟨(ltx ds).toArray⟩ ++ ⟨#[47]⟩) ++ ⟨(wrL F wn).toArray⟩) := by
    rw [Hid, show (⟨#[47]⟩ : ByteArray) = ⟨([47] : List UInt8).toArray⟩ from rfl, bytes_appL, bytes_appL]; rfl
  obtain ⟨L, hL⟩ : ∃ L : ByteArray, (⟨(ltx ds).toArray⟩ : ByteArray) = L := ⟨_, rfl⟩
  rw [hL] at hLs HFT ⊢
  obtain ⟨g0, g1, _, _⟩ := HP2.out
  clear hb2 p0 p1 hL hlt
  go_wp2_with (at_make; refine wpList_make_full _ rfl _ _ 44 rfl w2.heap.size 9 i0 (.string ByteArray.empty) 1 Tryd.underlying44 hi hz0 hz1 .i64 .i64 (wn : Int) (wn : Int) wn rfl rfl rfl rfl (by rw [hz2]; omega) (by unfold maxLen; omega) (Nat.le_refl _) ?_; intro w3 hown1 hgrow1; have hb1w : Below w2.heap.size w2 w3 := (Below.refl _ _).grown hgrow1 (Nat.le_refl _) (fun k e => by cases e); obtain ⟨f0, f1, _, _⟩ := HP2.out.below hb1w hlt2)
  have hi1 : Strs w3 w2.heap.size (.slice (some ⟨w2.heap.size, 0, none⟩) wn wn) (cpyS (wsS F wn) 0) := by
    unfold Strs
    have e : cpyS (wsS F wn) 0 = List.replicate wn ByteArray.empty := by simp [cpyS, wsS_len]
    rw [e, ← nones_list, List.length_replicate]
    have h : w3.ownsRow w2.heap.size 9 1 (.slice (some ⟨w2.heap.size, 0, none⟩) wn wn) wn (madeCells (Value.string ByteArray.empty).cells wn).toList := by simpa using hown1
    exact h
  have HI1 := Lib.hid hi1
  have HB3 := Lib.hid hb1w
  clear hi1 hb1w hown1 hgrow1 g0 g1 f0 f1
  go_loopw [7, 8, 25] (fun uv bv iv wr => ∃ k : Nat, k ≤ wn ∧ iv = .int .i64 (k : Int) ∧ Strs wr w2.heap.size (.slice (some ⟨w2.heap.size, 0, none⟩) wn wn) (cpyS (wsS F wn) k) ∧ Below w2.heap.size w2 wr) (fun _ _ iv _ => wn - (intOf iv).toNat)
  case atStart => exact ⟨0, Nat.zero_le _, rfl, HI1.out, HB3.out⟩
  case round =>
    obtain ⟨k, hk, rfl, hst, hB⟩ := hrel
    have HST := Lib.hid hst
    have HB := Lib.hid hB
    have hbs := hB.size
    by_cases hlt : k < wn
    · obtain ⟨hx, hy, hz⟩ := (fl_at HV.out).2.2.2.2 k hlt
      have HBD : Hid (bdF F k = bdL (F.getD (k * 3) 0) (F.getD (k * 3 + 1) 0) (F.getD (k * 3 + 2) 0)) := rfl
      have HNG : Hid ((wsS F wn)[k]'(by rw [wsS_len]; exact hlt) = ⟨(bdF F k).toArray⟩) := wsS_get F wn k (by rw [wsS_len]; exact hlt)
      have HCP := Lib.hid (cpyS_step (wsS F wn) k (by rw [wsS_len]; exact hlt))
      rw [HNG.out, HBD.out] at HCP
      obtain ⟨g, x, y, z, rfl, -, -, ⟨e0, e1, e2⟩, x0, x1, x2⟩ := (HR2.out.keep hB (Nat.le_refl _)).at k hlt
      rw [e0] at hx HCP
      rw [e1] at hy HCP
      rw [e2] at hz HCP
      clear e0 e1 e2 hB hst HNG
      have HBA := Lib.hid (HB.out.alloc hbs (.cells #[.int .i64 x, .int .i64 y, .int .i64 z] 46))
      have HSA := Lib.hid (HST.out.keep ((Below.refl wr.heap.size wr).alloc (Nat.le_refl _) (.cells #[.int .i64 x, .int .i64 y, .int .i64 z] 46)) (Nat.le_refl _))
      have HWA := Lib.hid (HB2.out.trans (HBA.out.mono HB2.out.size))
      have HDT := Lib.hid (implDot x y z _ hx hy hz (HD.out.on HWA.out))
      obtain ⟨X, hX⟩ : ∃ X : ByteArray, (⟨(bdL x y z).toArray⟩ : ByteArray) = X := ⟨_, rfl⟩
      rw [hX] at HDT HCP
      have q0 : (wr.alloc (.cells #[.int .i64 x, .int .i64 y, .int .i64 z] 46)).cell? ⟨wr.heap.size, 0, none⟩ = some (.int .i64 x) := by simp [go_sem]
      have q1 : (wr.alloc (.cells #[.int .i64 x, .int .i64 y, .int .i64 z] 46)).cell? ⟨wr.heap.size, 1, none⟩ = some (.int .i64 y) := by simp [go_sem]
      have q2 : (wr.alloc (.cells #[.int .i64 x, .int .i64 y, .int .i64 z] 46)).cell? ⟨wr.heap.size, 2, none⟩ = some (.int .i64 z) := by simp [go_sem]
      clear hX hx hy hz
      go_wp2_with fail
      refine HDT.out.mono ?_; rintro r w5 ⟨rfl, hb5⟩
      have HB5 := Lib.hid (HBA.out.trans (hb5.mono HBA.out.size))
      have hbu3 := HSA.out.keep hb5 (Nat.le_refl _)
      obtain ⟨a', cap', hv, _, kk⟩ := hbu3.form
      simp only [Value.slice.injEq] at hv
      obtain ⟨g', hg', _, hgs, hcell, hfr⟩ := kk k (by rw [cpyS_len _ k (by rw [wsS_len]; omega), wsS_len]; exact hlt)
      obtain ⟨rfl, -, rfl⟩ := hv
      simp only [Option.some.injEq, Addr.mk.injEq, and_true] at hg'
      subst hg'
      obtain ⟨xx, hcx⟩ : ∃ xx, w5.cell? ⟨w2.heap.size, k, none⟩ = some xx := ⟨_, hcell⟩
      have hput := hbu3.put k X
      rw [HCP.out] at hput
      have HIP := Lib.hid hput
      clear hbu3 kk hcell hput hb5 x0 x1 x2 q0 q1 q2
      go_wp2
      go_roundw
      case rel => exact ⟨k + 1, by omega, by go_num, HIP.out, HB5.out.setCell (Nat.le_refl _) _⟩
      case measure => simp [intOf]; omega
    · obtain rfl : k = wn := by omega
      have HR : Hid (SRow wr (some ⟨w2.heap.size, 0, none⟩) (wsS F k)) := by
        have h := HST.out.row.1
        rw [show cpyS (wsS F k) k = wsS F k by have := cpyS_end (wsS F k); rwa [wsS_len] at this] at h
        exact h
      have HJN := Lib.hid (join_any (some ⟨w2.heap.size, 0, none⟩) k k (wsS F k) wr (wsS_len F k).symm HR.out (by omega) (Nat.le_refl _) (by unfold maxLen; omega) (fun j hj => by
        rw [wsS_len] at hj
        rw [wsS_getD F k j hj]
        have := bdF_len HV.out j hj
        exact Nat.le_trans this (by omega)))
      have HJE : Hid (jnL (wsS F k) k = wrL F k) := wsS_join F k k (Nat.le_refl _)
      rw [HJE.out] at HJN
      have hwl := wrL_len HV.out k (Nat.le_refl _)
      have hWs : (⟨(wrL F k).toArray⟩ : ByteArray).size ≤ 66 * k := hwl
      obtain ⟨Wb, hW⟩ : ∃ L : ByteArray, (⟨(wrL F k).toArray⟩ : ByteArray) = L := ⟨_, rfl⟩
      rw [hW] at HJN HFT hWs
      have h47 : (⟨#[47]⟩ : ByteArray).size = 1 := rfl
      have a1 := fun w => run_string_add_sum (P := Tryd.prog) w L ⟨#[47]⟩ (by omega)
      have s1 : (L ++ ⟨#[47]⟩).size ≤ 21 * 64 + 1 := by rw [ByteArray.size_append]; omega
      obtain ⟨L2, hL2⟩ : ∃ Q, L ++ (⟨#[47]⟩ : ByteArray) = Q := ⟨_, rfl⟩
      rw [hL2] at a1 s1 HFT
      have a2 := fun w => run_string_add_sum (P := Tryd.prog) w L2 Wb (by omega)
      obtain ⟨L3, hL3⟩ : ∃ Q, L2 ++ Wb = Q := ⟨_, rfl⟩
      rw [hL3] at a2 HFT
      clear hst hB hW hL2 hL3 s1 h47 hwl hWs hLs
      go_wp2_with fail
      refine HJN.out.mono ?_; rintro r w4 ⟨rfl, hb4⟩
      have HB4 := Lib.hid (HB.out.trans (hb4.mono hbs))
      have HB6 := Lib.hid (HB2.out.trans (HB4.out.mono HB2.out.size))
      clear hb4
      go_wp2
      go_ret2
      exact ⟨by rw [HFT.out]; rfl, HB6.out⟩
end Go.Proofs.YtmhkeiccemfpeaaDoor
