/- Marks in a slice of strings. -/
import Derived.Test.YtkbnllaobnhfbaaDoorCutS
import Derived.Test.YtkbnllaobnhfbaaDoorJouS
import Derived.IntWalk
namespace Go.Proofs.YtkbnllaobnhfbaaDoor
open Go.RowKit
set_option linter.unusedVariables false
set_option linter.unusedSimpArgs false
def mtB (k : Nat) : ByteArray := ⟨((109 : UInt8) :: (revD k).reverse).toArray⟩
theorem one_string (w : World) (d : UInt8) : (convert 32 9 (.slice (some ⟨w.heap.size, 0, none⟩) 1 1)).run Tryd.prog (w.alloc (.cells #[.int .u8 (d.toNat : Int)] 5)) = .ok (.string ⟨#[d]⟩) (w.alloc (.cells #[.int .u8 (d.toNat : Int)] 5)) := by
  have h : Buf (w.alloc (.cells #[.int .u8 (d.toNat : Int)] 5)) w.heap.size (.slice (some ⟨w.heap.size, 0, none⟩) 1 1) [d] :=
    World.ownsRow_lit w #[.int .u8 (d.toNat : Int)] 1 (Nat.le_refl _) (by unfold maxLen; omega) rfl
  exact run_buf_string _ _ _ _ h
theorem revD_len5 (k : Nat) (h : k ≤ 10000) : (revD k).length ≤ 5 := revD_len 5 k (by show _ < 100000; omega)
set_option maxHeartbeats 4000000 in
set_option maxRecDepth 100000 in
theorem markText_any (K : Nat) (w : World) (h0 : 1 ≤ K) (h1 : K ≤ 10000) :
    Calls Tryd.prog 46 #[.int .i64 (K : Int)] w fun e w' => e = .returned (.string (mtB K)) ∧ Below w.heap.size w w' := by
  have t1 : ¬ (K : Int) ≤ 0 := by omega
  have hKl := revD_len5 K h1
  go_enter Tryd.func46, Tryd.ntmps46
  go_wp2
  go_loopw [0, 3] (fun kv ov wr => ∃ (k : Nat) (O : List UInt8), k ≤ K ∧ kv = .int .i64 (k : Int) ∧ ov = .string ⟨O.toArray⟩ ∧ Hid ((revD k).reverse ++ O = (revD K).reverse) ∧ O.length ≤ 5 ∧ Below w.heap.size w wr) (fun kv _ _ => (intOf kv).toNat)
  case atStart => exact ⟨K, [], Nat.le_refl _, rfl, rfl, by rw [Hid, List.append_nil], by simp, Below.refl _ _⟩
  case round =>
    obtain ⟨k, O, hk, rfl, rfl, HI, hO, hB⟩ := hrel
    by_cases hz : k = 0
    · have HE : Hid (O = (revD K).reverse) := by
        have h := HI.out
        rw [hz, revD_zero] at h
        rw [Hid]
        simpa using h
      have t2 : ¬ (0 : Int) < (k : Int) := by omega
      have hOs : ((⟨O.toArray⟩ : ByteArray)).size ≤ 5 := hO
      have HMT : Hid (mtB K = ⟨#[109]⟩ ++ ⟨O.toArray⟩) := by
        rw [Hid, ← (show (⟨([109] : List UInt8).toArray⟩ : ByteArray) = ⟨#[109]⟩ from rfl), bytes_appJ, HE.out]; rfl
      obtain ⟨Y, hY⟩ : ∃ Y : ByteArray, (⟨O.toArray⟩ : ByteArray) = Y := ⟨_, rfl⟩
      rw [hY] at hOs HMT ⊢
      have a1 := fun w => run_string_add_sum (P := Tryd.prog) w ⟨#[109]⟩ Y (by have : (⟨#[109]⟩ : ByteArray).size = 1 := rfl; omega)
      obtain ⟨Z, hZ⟩ : ∃ Z, (⟨#[109]⟩ : ByteArray) ++ Y = Z := ⟨_, rfl⟩
      rw [hZ] at a1 HMT
      clear hz hY hZ
      go_wp2
      go_ret
      exact ⟨by rw [HMT.out]; rfl, hB⟩
    · have t2 : (0 : Int) < (k : Int) := by omega
      have hk10 : k % 10 < 10 := Nat.mod_lt _ (by omega)
      have v1 : (k : Int).tmod 10 = ((k % 10 : Nat) : Int) := by rw [Int.tmod_eq_emod_of_nonneg (by omega)]; simp
      have hd := u8dig (k % 10) hk10
      have hdn : (UInt8.ofNat (48 + k % 10)).toNat = 48 + k % 10 := dig_toNat _ hk10
      have v3 : (k : Int).tdiv 10 = ((k / 10 : Nat) : Int) := by rw [Int.tdiv_eq_ediv_of_nonneg (by omega)]; simp
      have HST : Hid ((revD (k / 10)).reverse ++ (UInt8.ofNat (48 + k % 10) :: O) = (revD K).reverse) := by
        have h := HI.out
        rw [revD_pos hz, List.reverse_cons, List.append_assoc] at h
        exact h
      have hO5 : O.length + 1 ≤ 5 := by
        have h := congrArg List.length HI.out
        have h2 : 1 ≤ (revD k).length := by rw [revD_pos hz]; simp
        simp only [List.length_append, List.length_reverse] at h
        omega
      obtain ⟨dg, hdg⟩ : ∃ dg, UInt8.ofNat (48 + k % 10) = dg := ⟨_, rfl⟩
      rw [hdg] at hd hdn HST
      obtain ⟨e, he⟩ : ∃ e, k % 10 = e := ⟨_, rfl⟩
      rw [he] at v1 hd hdn hk10
      obtain ⟨k', hk'⟩ : ∃ k', k / 10 = k' := ⟨_, rfl⟩
      rw [hk'] at v3 HST
      have hkk : k' < k := by omega
      have v1w : IntKind.i64.wrap ((e : Nat) : Int) = (e : Int) := IntWalk.i64_in _ (by omega)
      have v2 : IntKind.i64.wrap (48 + (e : Int)) = (dg.toNat : Int) := by rw [IntWalk.i64_in _ (by omega)]; exact hd
      have v8 : IntKind.u8.wrap (48 + (e : Int)) = 48 + (e : Int) := IntWalk.u8_in _ (by omega)
      have v4 : IntKind.u8.wrap (dg.toNat : Int) = (dg.toNat : Int) := IntWalk.u8_in _ (by omega)
      have v5 : IntKind.i64.wrap ((k' : Nat) : Int) = (k' : Int) := IntWalk.i64_in _ (by omega)
      have v6 : (k : Int) % 10 = (e : Int) := by omega
      have v7 : (k : Int) / 10 = (k' : Int) := by omega
      have HBS : Hid ((⟨(dg :: O).toArray⟩ : ByteArray) = ⟨#[dg]⟩ ++ ⟨O.toArray⟩) := by
        rw [Hid, ← (show (⟨([dg] : List UInt8).toArray⟩ : ByteArray) = ⟨#[dg]⟩ from rfl), bytes_appJ]; rfl
      have hOs : ((⟨O.toArray⟩ : ByteArray)).size ≤ 5 := hO
      obtain ⟨Y, hY⟩ : ∃ Y : ByteArray, (⟨O.toArray⟩ : ByteArray) = Y := ⟨_, rfl⟩
      rw [hY] at hOs HBS ⊢
      have a1 := fun w => run_string_add_sum (P := Tryd.prog) w ⟨#[dg]⟩ Y (by have : (⟨#[dg]⟩ : ByteArray).size = 1 := rfl; omega)
      obtain ⟨Z, hZ⟩ : ∃ Z, (⟨#[dg]⟩ : ByteArray) ++ Y = Z := ⟨_, rfl⟩
      rw [hZ] at a1 HBS
      have hcv := one_string wr dg
      rw [← hd] at hcv
      have HBW := Lib.hid (hB.alloc hB.size (.cells #[.int .u8 (48 + (e : Int))] 5))
      clear hz hY hZ hdg he hk' hd hB v2 v4
      go_wp2
      go_roundw
      case rel => exact ⟨k', dg :: O, by omega, rfl, by rw [HBS.out], HST, by simp; omega, HBW.out⟩
      case measure => simp [intOf]; omega
def mtL (c n : Nat) : List ByteArray := (List.range n).map (fun j => mtB (c + j))
theorem mtL_len (c n : Nat) : (mtL c n).length = n := by simp [mtL]
theorem mtL_get (c n k : Nat) (h : k < (mtL c n).length) : (mtL c n)[k] = mtB (c + k) := by simp [mtL]
def mkS (c : Nat) (l : List ByteArray) (k : Nat) : List ByteArray := mtL c k ++ l.drop k
theorem mkS_len (c : Nat) (l : List ByteArray) (k : Nat) (h : k ≤ l.length) : (mkS c l k).length = l.length := by simp [mkS, mtL_len]; omega
theorem mkS_step (c : Nat) (l : List ByteArray) (k : Nat) (h : k < l.length) : (mkS c l k).set k (mtB (c + k)) = mkS c l (k + 1) := by
  unfold mkS
  rw [List.set_append, if_neg (by rw [mtL_len]; omega), mtL_len, Nat.sub_self, List.drop_eq_getElem_cons h, List.set_cons_zero]
  simp [mtL, List.range_succ]
theorem mkS_end (c : Nat) (l : List ByteArray) : mkS c l l.length = mtL c l.length := by simp [mkS]
set_option maxHeartbeats 4000000 in
set_option maxRecDepth 100000 in
theorem markStr (B : Nat) (v : Value) (l : List ByteArray) (c : Nat) (w : World) (h : Strs w B v l) (hB0 : B ≤ w.heap.size) (hc0 : 1 ≤ c) (hc1 : c + l.length ≤ 10000) :
    Calls Tryd.prog 23 #[v, .int .i64 (c : Int)] w fun e w' => e = .returned (.int .i64 ((c + l.length : Nat) : Int)) ∧ Strs w' B v (mtL c l.length) ∧ Below B w w' := by
  obtain ⟨a, cap, rfl, hl, _⟩ := h.form
  have H := Lib.hid h
  clear h hl
  go_enter Tryd.func23, Tryd.ntmps23
  go_wp2
  go_loopw [1, 5] (fun m i wr => ∃ k : Nat, k ≤ l.length ∧ i = .int .i64 (k : Int) ∧ m = .int .i64 ((c + k : Nat) : Int) ∧ Strs wr B (.slice a l.length cap) (mkS c l k) ∧ Below B w wr) (fun _ i _ => l.length - (intOf i).toNat)
  case atStart => exact ⟨0, Nat.zero_le _, rfl, by simp, by simpa [mkS, mtL] using H.out, Below.refl _ _⟩
  case round =>
    obtain ⟨k, hk, rfl, rfl, hi, hb⟩ := hrel
    by_cases hlt : k < l.length
    · have HS := Lib.hid hi
      have HB := Lib.hid hb
      have hsz := hb.size
      have HST := Lib.hid (mkS_step c l k hlt)
      have HMT := Lib.hid (fun W => markText_any (c + k) W (by omega) (by omega))
      obtain ⟨x, hx⟩ : ∃ x, mtB (c + k) = x := ⟨_, rfl⟩
      rw [hx] at HMT HST
      obtain ⟨ck, hck⟩ : ∃ ck, c + k = ck := ⟨_, rfl⟩
      rw [hck] at HMT ⊢
      have HCK : Hid (c + (k + 1) = ck + 1) := by rw [Hid]; omega
      have hckb : ck ≤ 10000 := by omega
      have v1 : IntKind.i64.wrap ((ck : Int) + 1) = ((ck + 1 : Nat) : Int) := by rw [IntWalk.i64_in _ (by omega)]; omega
      clear hi hb hx hck
      go_wp2_with fail
      refine (HMT.out _).mono ?_; rintro e w2 ⟨rfl, hb2⟩
      have hi2 := HS.out.keep hb2 (Nat.le_refl _)
      have HB2 := Lib.hid (HB.out.trans (hb2.mono (by omega)))
      obtain ⟨a', cap', hv, _, kk⟩ := hi2.form
      simp only [Value.slice.injEq] at hv
      obtain ⟨g, hg, hBg, hgs, hcell, hfr⟩ := kk k (by rw [mkS_len c l k (by omega)]; exact hlt)
      obtain ⟨rfl, -, rfl⟩ := hv
      subst hg
      have HI := Lib.hid (hi2.put k x)
      rw [HST.out] at HI
      obtain ⟨y, hcx⟩ : ∃ y, w2.cell? ⟨g, k, none⟩ = some y := ⟨_, hcell⟩
      clear hi2 kk hcell hb2
      go_wp2
      go_roundw
      case rel => exact ⟨k + 1, by omega, by go_num, by rw [HCK.out]; go_num, HI.out, HB2.out.setCell hBg _⟩
      case measure => simp [intOf]; omega
    · obtain rfl : k = l.length := by omega
      rw [mkS_end] at hi
      go_wp2
      go_ret
      exact ⟨rfl, hi, hb⟩
set_option maxHeartbeats 4000000 in
set_option maxRecDepth 100000 in
theorem heldStr (B : Nat) (v : Value) (n c : Nat) (w : World) (h : Strs w B v (mtL c n)) (hc0 : 1 ≤ c) (hc1 : c + n ≤ 10000) :
    Calls Tryd.prog 24 #[v, .int .i64 (c : Int)] w fun e w' => e = .returned (.int .i64 ((c + n : Nat) : Int)) ∧ Below w.heap.size w w' := by
  obtain ⟨a, cap, rfl, hl, _⟩ := h.form
  have HR := Lib.hid h.row.1
  rw [mtL_len]
  clear h hl
  go_enter Tryd.func24, Tryd.ntmps24
  go_wp2
  go_loopw [1, 5] (fun m i wr => ∃ k : Nat, k ≤ n ∧ i = .int .i64 (k : Int) ∧ m = .int .i64 ((c + k : Nat) : Int) ∧ Below w.heap.size w wr) (fun _ i _ => n - (intOf i).toNat)
  case atStart => exact ⟨0, Nat.zero_le _, rfl, by simp, Below.refl _ _⟩
  case round =>
    obtain ⟨k, hk, rfl, rfl, hb⟩ := hrel
    by_cases hlt : k < n
    · obtain ⟨b, off, rfl, hbl, hcell⟩ := HR.out.at k (by rw [mtL_len]; exact hlt)
      rw [mtL_get] at hcell
      have HMT := Lib.hid (fun W => markText_any (c + k) W (by omega) (by omega))
      obtain ⟨x, hx⟩ : ∃ x, mtB (c + k) = x := ⟨_, rfl⟩
      rw [hx] at HMT hcell
      obtain ⟨ck, hck⟩ : ∃ ck, c + k = ck := ⟨_, rfl⟩
      rw [hck] at HMT ⊢
      have HCK : Hid (c + (k + 1) = ck + 1) := by rw [Hid]; omega
      have hckb : ck ≤ 10000 := by omega
      have v1 : IntKind.i64.wrap ((ck : Int) + 1) = ((ck + 1 : Nat) : Int) := by rw [IntWalk.i64_in _ (by omega)]; omega
      have hcw := (hb.cell (p := ⟨b, off + k, none⟩) hbl).trans hcell
      have HB := Lib.hid hb
      have hxx : (x.toList == x.toList) = true := by simp
      have HDN : DnJ wr wr := Below.refl _ _
      clear hb hx hck hcell
      go_wp2
      go_region_held3 (fun U => U.cell? ⟨b, off + k, none⟩ = some (.string x) ∧ DnJ wr U) (first | (go_split_ands; (refine ⟨?_, ?_⟩ <;> (first | (with_reducible assumption) | ((with_reducible apply cell_keptJ) <;> (with_reducible assumption)) | ((with_reducible refine cell_drJ ?_); (with_reducible assumption)) | ((with_reducible refine DnJ.dr ?_); (with_reducible assumption)) | ((with_reducible apply DnJ.call) <;> (with_reducible assumption)))))) (first | (go_at_call 46; (with_reducible refine (HMT.out _).mono ?_); rintro e w2 ⟨rfl, hb2⟩))
      all_goals
        rename_i hHeld
        have HB2 := Lib.hid (HB.out.trans (Below.mono hHeld.2 HB.out.size))
        clear hHeld
        go_wp2
        go_roundw
      all_goals first
        | (case rel => exact ⟨k + 1, by omega, by go_num, by rw [HCK.out]; go_num, HB2.out⟩)
        | (case measure => simp [intOf]; omega)
    · obtain rfl : k = n := by omega
      go_wp2
      go_ret
      exact ⟨rfl, hb⟩
end Go.Proofs.YtkbnllaobnhfbaaDoor
