/- ListText, on both sides (beside rows of structs). -/
import Derived.Test.YtmhkeiccemfpeaaDoorJoinW
import Derived.Test.YtmhkeiccemfpeaaDoorArgL
import Derived.Test.YtmhkeiccemfpeaaDoorIn64
import Derived.Test.YtmhkeiccemfpeaaDoorDecLaw
import Derived.Test.YtmhkeiccemfpeaaDoorTextMath
import Derived.Laws.Cover1
namespace Go.Proofs.YtmhkeiccemfpeaaDoor
open Go.RowKit
set_option linter.unusedVariables false
set_option linter.unusedSimpArgs false
theorem getD_of {T : List Int} {k : Nat} (hk : k < T.length) : T[k] = T.getD k 0 := by rw [List.getD_eq_getElem?_getD, List.getElem?_eq_getElem hk]; rfl
theorem bytes_appL (a b : List UInt8) : ((⟨a.toArray⟩ : ByteArray) ++ (⟨b.toArray⟩ : ByteArray)) = ⟨(a ++ b).toArray⟩ := by
  apply ByteArray.ext
  rw [ByteArray.data_append]
  simp
theorem below_drL {B : Nat} {a w : World} (h : Below B a w) (n : Nat) : Below B a (w.drewN n) := ⟨h.os, h.tape, h.output, h.size, h.block⟩
theorem str_neL {x y : ByteArray} (h : x ≠ y) : (x.toList == y.toList) = false := by
  apply beq_eq_false_iff_ne.2
  intro e
  rw [Lib.toList_data, Lib.toList_data] at e
  apply h
  cases x; cases y
  simp at e
  simpa using e
theorem Ints.arg {w : World} {B n cap : Nat} {a : Option Addr} {l : List Int} (h : Ints w B (.slice a n cap) l) : ArgRow w a l := by
  obtain ⟨a', cap', hv, hm, hk⟩ := h.form
  simp only [Value.slice.injEq] at hv
  obtain ⟨rfl, rfl, rfl⟩ := hv
  by_cases h0 : l = []
  · exact .inl h0
  · have hp : 0 < l.length := by cases l with | nil => exact absurd rfl h0 | cons x xs => simp
    obtain ⟨g, h1, _, h2, _, _⟩ := hk 0 hp
    refine .inr ⟨g, 0, h1, h2, fun k hk2 => ?_⟩
    obtain ⟨g', h1', _, _, h3, _⟩ := hk k hk2
    rw [h1] at h1'
    injection h1' with e
    injection e with e1
    subst e1
    rw [Nat.zero_add]; exact h3
theorem ArgRow.get {w : World} {a : Option Addr} {l : List Int} (h : ArgRow w a l) (k : Nat) (hk : k < l.length) : ∃ b off, a = some ⟨b, off, none⟩ ∧ b < w.heap.size ∧ w.cell? ⟨b, off + k, none⟩ = some (.int .i64 (l.getD k 0)) := by
  rcases h with h | ⟨b, off, h1, h2, h3⟩
  · rw [h] at hk; simp at hk
  · exact ⟨b, off, h1, h2, by rw [h3 k hk, getD_of hk]⟩
def inV (x : Int) : Bool := decide (-1000000000000000 ≤ x ∧ x ≤ 1000000000000000)
def inS (l : List Int) (k : Nat) : Bool := inV (l.getD k 0)
def okT (l : List Int) : Bool := (List.range l.length).all (inS l) && decide (l.length ≤ 64)
def ansT (l : List Int) : ByteArray := if okT l = true then (if l = [] then ⟨#[110, 111, 110, 101]⟩ else ⟨(ltx l).toArray⟩) else ⟨#[]⟩
theorem okT_bad {l : List Int} {k : Nat} (hk : k < l.length) (h : inS l k = false) : okT l = false := by unfold okT; rw [rngS_bad _ k _ hk h]; rfl
theorem okT_long {l : List Int} (h : ¬ l.length ≤ 64) : okT l = false := by unfold okT; rw [decide_eq_false h, Bool.and_false]
theorem okT_yes {l : List Int} (h : (List.range l.length).all (inS l) = true) (h2 : l.length ≤ 64) : okT l = true := by unfold okT; rw [h, decide_eq_true h2]; rfl
theorem ansT_no {l : List Int} (h : okT l = false) : ansT l = ⟨#[]⟩ := by unfold ansT; rw [h]; rfl
theorem ansT_nil : ansT [] = ⟨#[110, 111, 110, 101]⟩ := rfl
theorem ansT_yes {l : List Int} (h : okT l = true) (h2 : l ≠ []) : ansT l = ⟨(ltx l).toArray⟩ := by unfold ansT; rw [if_pos h, if_neg h2]
theorem okT_at {l : List Int} (h : okT l = true) (k : Nat) (hk : k < l.length) : -1000000000000000 ≤ l.getD k 0 ∧ l.getD k 0 ≤ 1000000000000000 := by
  unfold okT at h
  rw [Bool.and_eq_true] at h
  have := rngS_at h.1 k hk
  unfold inS inV at this
  exact of_decide_eq_true this
theorem okT_len {l : List Int} (h : okT l = true) : l.length ≤ 64 := by
  unfold okT at h
  rw [Bool.and_eq_true] at h
  exact of_decide_eq_true h.2
theorem ret_txt {a b : ByteArray} {c d : Bool} (h : a = b) (h2 : c = d) : Ending.returned (.tuple #[.string a, .bool c]) = .returned (.tuple #[.string b, .bool d]) := by rw [h, h2]
theorem take_succ_getD (l : List Int) (k : Nat) (h : k < l.length) : l.take (k + 1) = l.take k ++ [l.getD k 0] := by
  rw [List.take_succ_eq_append_getElem h, getD_of h]
theorem ltx_take_len {l : List Int} (h : okT l = true) (k : Nat) : (ltx (l.take k)).length ≤ 21 * 64 := by
  have h1 := ltx_len (l.take k) (fun x hx => by
    obtain ⟨i, hi, rfl⟩ := List.mem_iff_getElem.1 (List.mem_of_mem_take hx)
    have := okT_at h i hi
    rw [← getD_of hi] at this
    omega)
  have h2 := okT_len h
  have h3 : (l.take k).length ≤ l.length := by simp; omega
  omega
/-- the numerals -/
def numS (l : List Int) : List ByteArray := l.map (fun x => ⟨(Lib.itoa x).toArray⟩)
theorem numS_len (l : List Int) : (numS l).length = l.length := by simp [numS]
theorem numS_get (l : List Int) (k : Nat) (h : k < (numS l).length) : (numS l)[k] = ⟨(Lib.itoa (l.getD k 0)).toArray⟩ := by
  have hk : k < l.length := by rwa [numS_len] at h
  simp only [numS, List.getElem_map]
  rw [getD_of hk]
theorem numS_join (l : List Int) : jnL (numS l) l.length = ltx l := by
  have h := jnL_all (numS l)
  rw [numS_len] at h
  rw [h]
  unfold ltx numS
  rw [List.map_map]
  rfl
set_option maxHeartbeats 8000000 in
set_option maxRecDepth 100000 in
theorem implLT (a : Option Addr) (n cap : Nat) (l : List Int) (w : World) (hn : n = l.length) (h : ArgRow w a l) (hm : n ≤ 1048576) (hd : DoorW w) :
    Calls Tryd.prog 16 #[.slice a n cap] w fun e w' => e = .returned (.tuple #[.string (ansT l), .bool (okT l)]) ∧ Below w.heap.size w w' := by
  obtain ⟨i0, hi, hz0, hz1, hz2⟩ := info_parts info_str
  have HN := Lib.hid hn
  have HA := Lib.hid h
  have HD := Lib.hid hd
  clear hn h hd
  go_enter Tryd.func16, Tryd.ntmps16
  by_cases h64 : n ≤ 64
  · have t6 : ¬ (64 : Int) < (n : Int) := by omega
    by_cases h0 : n = 0
    · have hl : l = [] := by have := HN.out; rw [h0] at this; exact List.length_eq_zero_iff.1 this.symm
      subst hl
      have t0 : ((n : Int) == 0) = true := by simp [h0]
      clear h0
      go_wp2
      go_ret2
      exact ⟨rfl, Below.refl _ _⟩
    · have t0 : ((n : Int) == 0) = false := by simp; omega
      have HLN : Hid (l ≠ []) := by intro e; apply h0; rw [HN.out, e]; rfl
      clear h0
      go_wp2_with (at_make; refine wpList_make_full _ rfl _ _ 44 rfl w.heap.size 9 i0 (.string ByteArray.empty) 1 Tryd.underlying44 hi hz0 hz1 .i64 .i64 (n : Int) (n : Int) n rfl rfl rfl rfl (by rw [hz2]; omega) (by unfold maxLen; omega) (Nat.le_refl _) ?_; intro w1 hown1 hgrow1)
      have hi1 : Strs w1 w.heap.size (.slice (some ⟨w.heap.size, 0, none⟩) n n) (cpyS (numS l) 0) := by
        unfold Strs
        have e : cpyS (numS l) 0 = List.replicate n ByteArray.empty := by simp [cpyS, numS_len, HN.out]
        rw [e, ← nones_list, List.length_replicate]
        have h : w1.ownsRow w.heap.size 9 1 (.slice (some ⟨w.heap.size, 0, none⟩) n n) n (madeCells (Value.string ByteArray.empty).cells n).toList := by simpa using hown1
        exact h
      have hb1w : Below w.heap.size w w1 := (Below.refl _ _).grown hgrow1 (Nat.le_refl _) (fun k e => by cases e)
      have HI1 := Lib.hid hi1
      have HB1 := Lib.hid hb1w
      clear hi1 hb1w hown1 hgrow1
      go_wp2
      go_loopw [5, 6, 18] (fun uv xv iv wr => ∃ k : Nat, k ≤ n ∧ iv = .int .i64 (k : Int) ∧ Strs wr w.heap.size (.slice (some ⟨w.heap.size, 0, none⟩) n n) (cpyS (numS l) k) ∧ Below w.heap.size w wr ∧ (List.range k).all (inS l) = true) (fun _ _ iv _ => n - (intOf iv).toNat)
      case atStart => exact ⟨0, Nat.zero_le _, rfl, HI1.out, HB1.out, rfl⟩
      case round =>
        obtain ⟨k, hk, rfl, hbuf, hB, hall⟩ := hrel
        have HAL := Lib.hid hall
        have HBU := Lib.hid hbuf
        have HB := Lib.hid hB
        clear hall hbuf
        by_cases hlt : k < n
        · have hkl : k < l.length := by have := HN.out; omega
          obtain ⟨b, off, rfl, hbl, hc⟩ := HA.out.get k hkl
          have HIS : Hid (inS l k = inV (l.getD k 0)) := rfl
          have HNG : Hid ((numS l)[k]'(by rw [numS_len]; exact hkl) = ⟨(Lib.itoa (l.getD k 0)).toArray⟩) := numS_get l k (by rw [numS_len]; exact hkl)
          obtain ⟨y, hy⟩ : ∃ y, l.getD k 0 = y := ⟨_, rfl⟩
          rw [hy] at hc HIS HNG
          have hc2 := (hB.cell (p := ⟨b, off + k, none⟩) hbl).trans hc
          clear hy hB hc
          by_cases hin : -1000000000000000 ≤ y ∧ y ≤ 1000000000000000
          · have HST := Lib.hid (rngS_step _ k HAL.out (by rw [HIS.out]; exact decide_eq_true hin))
            have HDC := Lib.hid (implDec y wr (by omega) (by omega) (HD.out.on HB.out))
            have HCP := Lib.hid (cpyS_step (numS l) k (by rw [numS_len]; exact hkl))
            rw [HNG.out] at HCP
            obtain ⟨X, hX⟩ : ∃ X : ByteArray, (⟨(Lib.itoa y).toArray⟩ : ByteArray) = X := ⟨_, rfl⟩
            rw [hX] at HDC HCP
            go_wp2_with fail
            refine (within_i64_t y _ _ _ hin.1 hin.2).mono ?_; rintro e w' ⟨rfl, rfl⟩
            clear hin hX HNG
            go_wp2_with fail
            refine HDC.out.mono ?_; rintro e w3 ⟨rfl, hb3⟩
            have HB3 := Lib.hid (HB.out.trans (hb3.mono HB.out.size))
            have hbu3 := HBU.out.keep hb3 (Nat.le_refl _)
            obtain ⟨a', cap', hv, _, kk⟩ := hbu3.form
            simp only [Value.slice.injEq] at hv
            obtain ⟨g', hg', _, hgs, hcell, hfr⟩ := kk k (by rw [cpyS_len _ k (by rw [numS_len]; omega), numS_len]; exact hkl)
            obtain ⟨rfl, -, rfl⟩ := hv
            simp only [Option.some.injEq, Addr.mk.injEq, and_true] at hg'
            subst hg'
            obtain ⟨xx, hcx⟩ : ∃ xx, w3.cell? ⟨w.heap.size, k, none⟩ = some xx := ⟨_, hcell⟩
            have hput := hbu3.put k X
            rw [HCP.out] at hput
            have HI := Lib.hid hput
            clear hbu3 kk hcell hput hb3 hc2
            go_wp2
            go_roundw
            case rel => exact ⟨k + 1, by omega, by go_num, HI.out, HB3.out.setCell (Nat.le_refl _) _, HST.out⟩
            case measure => simp [intOf]; omega
          · have HE := Lib.hid (okT_bad hkl (by rw [HIS.out]; exact decide_eq_false hin))
            go_wp2_with fail
            refine (within_i64_f y _ _ _ (by omega)).mono ?_; rintro e w' ⟨rfl, rfl⟩
            clear hin
            go_wp2
            go_ret2
            exact ⟨ret_txt (ansT_no HE.out).symm HE.out.symm, HB.out⟩
        · obtain rfl : k = n := by omega
          have HE : Hid (okT l = true) := okT_yes (by rw [← HN.out]; exact HAL.out) (by have := HN.out; omega)
          have HR : Hid (SRow wr (some ⟨w.heap.size, 0, none⟩) (numS l)) := by
            have h := HBU.out.row.1
            rw [show k = (numS l).length by rw [numS_len]; exact HN.out, cpyS_end] at h
            exact h
          have HJN := Lib.hid (join_any (some ⟨w.heap.size, 0, none⟩) k k (numS l) wr (by rw [numS_len]; exact HN.out) HR.out (by omega) (Nat.le_refl _) (by unfold maxLen; omega) (fun j hj => by
            rw [← getD_s hj, numS_get l j hj]
            have hj2 : j < l.length := by rwa [numS_len] at hj
            have h1 := okT_at HE.out j hj2
            have h2 := itoa_len (l.getD j 0) (by omega)
            exact Nat.le_trans h2 (by omega)))
          have HJE : Hid (jnL (numS l) k = ltx l) := by rw [Hid, HN.out]; exact numS_join l
          rw [HJE.out] at HJN
          clear hB
          go_wp2_with fail
          refine HJN.out.mono ?_; rintro e w4 ⟨rfl, hb4⟩
          have HB4 := Lib.hid (HB.out.trans (hb4.mono HB.out.size))
          clear hb4
          go_wp2
          go_ret2
          exact ⟨ret_txt (ansT_yes HE.out HLN.out).symm HE.out.symm, HB4.out⟩
  · have t6 : (64 : Int) < (n : Int) := by omega
    have HE : Hid (okT l = false) := okT_long (by have := HN.out; omega)
    go_wp2
    go_ret2
    exact ⟨ret_txt (ansT_no HE.out).symm HE.out.symm, Below.refl _ _⟩
end Go.Proofs.YtmhkeiccemfpeaaDoor
