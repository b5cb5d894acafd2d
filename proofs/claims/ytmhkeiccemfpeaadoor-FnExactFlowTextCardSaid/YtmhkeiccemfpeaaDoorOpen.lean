/- Does a vertex lead to itself without registers? The model's side. -/
import Derived.Test.YtmhkeiccemfpeaaDoorFlowF
import Derived.Test.YtmhkeiccemfpeaaDoorPut
namespace Go.Proofs.YtmhkeiccemfpeaaDoor
open Go.RowKit
set_option linter.unusedVariables false
set_option linter.unusedSimpArgs false

theorem has_mem (l : List Int) (x : Int) : hasB l x = true ↔ x ∈ l := by unfold hasB; exact List.contains_iff_mem
theorem has_not {l : List Int} {x : Int} (h : hasB l x = false) : x ∉ l := fun hm => by rw [(has_mem l x).2 hm] at h; cases h
theorem below_drewNF {B : Nat} {w w' : World} (n : Nat) (h : Below B w w') : Below B w (w'.drewN n) := ⟨h.os, h.tape, h.output, h.size, h.block⟩
def ApV (v1 v2 : Value) : Prop := ∀ g1 g2, v1.ownBlock = some g1 → v2.ownBlock = some g2 → g1 ≠ g2
theorem ints_someF {w : World} {B : Nat} {v : Value} {l : List Int} (h : Ints w B v l) (hl : 0 < l.length) : ∃ g c, v = .slice (some ⟨g, 0, none⟩) l.length c ∧ B ≤ g ∧ g < w.heap.size := by
  rcases h with ⟨h1, ⟨rfl, hn⟩ | ⟨g, cap, cur, rfl, hg, hh, rest⟩⟩
  · omega
  · exact ⟨g, cap, rfl, hg, (Array.getElem?_eq_some_iff.1 hh).1⟩
theorem ints_ltF {w : World} {B : Nat} {v : Value} {l : List Int} (h : Ints w B v l) : ∀ k, v.ownBlock = some k → B ≤ k ∧ k < w.heap.size := World.ownsRow.lt h
theorem ints_belowF {B : Nat} {w wr w1 : World} {v : Value} {l : List Int} (hB : Below B w wr) (hw : B ≤ w.heap.size) (hbuf : Ints wr B v l) (o : Obj) (hg : (wr.alloc o).grownBy w1 v.ownBlock) : Below B w w1 :=
  (hB.alloc (Nat.le_trans hw hB.size) o).grown hg (by have := hB.size; simp; omega) (fun k e => (World.ownsRow.lt (World.ownsRow.alloc hbuf o) k e).1)
/-- what the search tells -/
def OpenR (F : List Int) (nw : Nat) (v : Int) (w : World) (r : Ending) (w' : World) : Prop := Below w.heap.size w w' ∧ ∃ ok : Bool, r = .returned (.bool ok) ∧ (ok = true ↔ ZP F nw v v)
/-- the search's memory: its list and what it has seen -/
def OpenM (F : List Int) (nw n : Nat) (v : Int) (w : World) (i k : Nat) (x : Option Int) (sv lv : Value) (wr : World) : Prop :=
  ∃ (L S : List Int) (g c : Nat) (sa : Option Addr) (sc : Nat), sv = .slice sa S.length sc ∧ lv = .slice (some ⟨g, 0, none⟩) L.length c ∧ Bfs F nw n v L S i k ∧ Ints wr w.heap.size (.slice (some ⟨g, 0, none⟩) L.length c) L ∧ Ints wr w.heap.size sv S ∧ ApV (.slice (some ⟨g, 0, none⟩) L.length c) sv ∧ Below w.heap.size w wr ∧ (∀ y, x = some y → L[i]? = some y)
theorem OpenM.keep {F : List Int} {nw n : Nat} {v : Int} {w : World} {i k k' : Nat} {x : Option Int} {sv lv : Value} {wr W : World} (h : OpenM F nw n v w i k x sv lv wr) (hb : Below wr.heap.size wr W) (hB : ∀ L S, Bfs F nw n v L S i k → (∀ y, x = some y → L[i]? = some y) → Bfs F nw n v L S i k') : OpenM F nw n v w i k' x sv lv W := by
  obtain ⟨L, S, g, c, sa, sc, h0, h1, h2, h3, h4, h5, h6, h7⟩ := h
  exact ⟨L, S, g, c, sa, sc, h0, h1, hB L S h2 h7, h3.keep hb (Nat.le_refl _), h4.keep hb (Nat.le_refl _), h5, h6.trans (hb.mono h6.size), h7⟩

set_option maxHeartbeats 8000000 in
set_option maxRecDepth 100000 in
theorem l08Open_any (p B : Nat) (da : Option Addr) (dn dc : Nat) (ds : List Int) (wa : Option Addr) (wn wc : Nat) (F : List Int) (v : Nat) (w : World) (hp : At2 w p (.slice da dn dc) (.slice wa wn wc)) (hf : Fl w B da dn dc ds wa wn wc F) (hok : formB ds wn F = true) (hv : v < dn) :
    Calls Tryd.prog 22 #[.pointer (some ⟨p, 0, none⟩), .int .i64 (v : Int)] w fun r w' => OpenR F wn (v : Int) w r w' := by
  obtain ⟨i0, hi, hz0, hz1, hz2⟩ := info_parts info_i64
  obtain ⟨f1, f2, f3, -, f5⟩ := form_ok hok
  rw [← hf.n] at f1 f2 f5
  have HF5 := Lib.hid f5
  have HP := Lib.hid hp
  have HF := Lib.hid hf
  have hpl := hp.lt
  have hM0 : OpenM F wn dn (v : Int) w 0 0 none (.slice (some ⟨w.heap.size, 0, none⟩) 0 0) (.slice (some ⟨w.heap.size + 1, 0, none⟩) 1 1) ((w.alloc (.cells #[] 2)).alloc (.cells #[.int .i64 (v : Int)] 2)) := by
    have hb2 : Below (w.heap.size + 1) (w.alloc (.cells #[] 2)) ((w.alloc (.cells #[] 2)).alloc (.cells #[.int .i64 (v : Int)] 2)) := (Below.refl _ _).alloc (by simp) _
    refine ⟨[(v : Int)], [], w.heap.size + 1, 1, some ⟨w.heap.size, 0, none⟩, 0, rfl, rfl, Bfs.start F wn dn v (by omega) (by omega), ?_, (Ints.lit w).keep hb2 (by simp), fun g1 g2 h1 h2 => ?_, ((Below.refl _ _).alloc (Nat.le_refl _) _).alloc (by simp) _, fun y h => by cases h⟩
    · have := World.ownsRow_lit (w.alloc (.cells #[] 2)) #[.int .i64 (v : Int)] (e := 2) (size := 1) (base := w.heap.size) 1 (by simp) (by unfold maxLen; omega) rfl
      simpa [Ints] using this
    · have e1 : w.heap.size + 1 = g1 := by injection h1
      have e2 : w.heap.size = g2 := by injection h2
      omega
  have HM0 := Lib.hid hM0
  clear hp hf f5 hM0
  go_enter Tryd.func22, Tryd.ntmps22
  go_wp2
  go_loopw [5, 6, 7, 8, 9] (fun sv lv i _ _ wr => ∃ k : Nat, i = .int .i64 (k : Int) ∧ k ≤ dn ∧ Hid (OpenM F wn dn (v : Int) w k 0 none sv lv wr)) (fun _ _ i _ _ _ => dn + 1 - (intOf i).toNat)
  case atStart => exact ⟨0, rfl, Nat.zero_le _, HM0⟩
  case round =>
    obtain ⟨i, rfl, hin, HM⟩ := hrel
    clear HM0
    obtain ⟨L, S, g, c, sa, sc, rfl, rfl, hbf, hL, hS, hA, hB, -⟩ := HM.out
    obtain ⟨hl1, hl2, hl3⟩ := hbf.len
    by_cases hlt : i < L.length
    · have hltz : (i : Int) < (L.length : Int) := by omega
      have hx : L[i]? = some L[i] := List.getElem?_eq_getElem hlt
      have HX : Hid (∀ y, some L[i] = some y → L[i]? = some y) := fun y h => by rw [hx]; exact h
      obtain ⟨x, hxe⟩ : ∃ x, L[i]'hlt = x := ⟨_, rfl⟩
      rw [hxe] at HX
      have HMI : Hid (OpenM F wn dn (v : Int) w i 0 (some x) (.slice sa S.length sc) (.slice (some ⟨g, 0, none⟩) L.length c) wr) := ⟨L, S, g, c, sa, sc, rfl, rfl, hbf, hL, hS, hA, hB, HX.out⟩
      have hxi : i < dn := by omega
      have hx0 : (0 : Int) ≤ (i : Int) := by omega
      have HHB := Lib.hid hB
      clear hx hxe HX hbf hL hS hA HM hl1 hl2 hl3 hlt hB
      go_wp2
      clear hltz
      go_loopw [5, 6, 8, 9] (fun sv lv m _ wr => ∃ k : Nat, m = .int .i64 (k : Int) ∧ k ≤ wn ∧ Hid (OpenM F wn dn (v : Int) w i k (some x) sv lv wr)) (fun _ _ m _ _ => wn - (intOf m).toNat)
      case atStart => exact ⟨0, rfl, Nat.zero_le _, HMI⟩
      case round =>
        obtain ⟨m, rfl, hm, HM⟩ := hrel
        clear HMI
        obtain ⟨L, S, g, c, sa, sc, rfl, rfl, hbf, hL, hS, hA, hB, hx⟩ := HM.out
        have hxl := hx x rfl
        obtain ⟨hl1, hl2, hl3⟩ := hbf.len
        obtain ⟨hil, hxe⟩ := List.getElem?_eq_some_iff.1 hxl
        have hilz : (i : Int) < (L.length : Int) := by omega
        have HB := Lib.hid hB
        have hszr := hB.size
        obtain ⟨c0, c1, -, -⟩ := HP.out.below hB hpl
        by_cases hlt : m < wn
        · have hltz : (m : Int) < (wn : Int) := by omega
          obtain ⟨gw, xf, yt, zc, rfl, -, -, ⟨e0, e1, e2⟩, x0, x1, x2⟩ := (HF.out.r.keep hB (Nat.le_refl _)).at m hlt
          obtain ⟨-, ⟨q1, q2⟩, q3, q4⟩ := HF5.out m hlt
          rw [e1] at q1 q2
          rw [e2] at q3 q4
          have HE := Lib.hid (And.intro e0 (And.intro e1 e2))
          have HL := Lib.hid hL
          have HS := Lib.hid hS
          have HA := Lib.hid hA
          have HBF := Lib.hid hbf
          have HXL := Lib.hid hxl
          have HLC := Lib.hid hL
          go_wp2
          obtain ⟨W2, hW2⟩ : ∃ W2, wr.alloc (.cells #[.int .i64 xf, .int .i64 yt, .int .i64 zc] 46) = W2 := ⟨_, rfl⟩
          have hb2 : Below wr.heap.size wr W2 := by rw [← hW2]; exact (Below.refl _ _).alloc (Nat.le_refl _) _
          have t0 : W2.cell? ⟨wr.heap.size, 0, none⟩ = some (.int .i64 xf) := by rw [← hW2]; simp [go_sem]
          have t1 : W2.cell? ⟨wr.heap.size, 1, none⟩ = some (.int .i64 yt) := by rw [← hW2]; simp [go_sem]
          have t2 : W2.cell? ⟨wr.heap.size, 2, none⟩ = some (.int .i64 zc) := by rw [← hW2]; simp [go_sem]
          have hsz2 : wr.heap.size < W2.heap.size := by rw [← hW2]; simp
          have lc : W2.cell? ⟨g, i, none⟩ = some (.int .i64 x) := by
            obtain ⟨g', hg', hc'⟩ := (hL.keep hb2 (Nat.le_refl _)).row.1 i hil
            simp only [Option.some.injEq, Addr.mk.injEq, and_true] at hg'
            subst hg'
            rw [hc', hxe]
          have HB2 := Lib.hid hb2
          have HT1 := Lib.hid t1
          rw [hW2]
          have HSK : Hid (¬ (xf = x ∧ zc = 0) → ∀ W, Below wr.heap.size wr W → OpenM F wn dn (v : Int) w i (m + 1) (some x) (.slice sa S.length sc) (.slice (some ⟨g, 0, none⟩) L.length c) W) := fun hs W hW =>
            ⟨L, S, g, c, sa, sc, rfl, rfl, HBF.out.skip x HXL.out (by rw [HE.out.1, HE.out.2.2]; exact hs), HL.out.keep hW (Nat.le_refl _), HS.out.keep hW (Nat.le_refl _), HA.out, HB.out.trans (hW.mono HB.out.size), fun y h => by injection h with h; rw [← h]; exact HXL.out⟩
          clear hbf hL hS hA hxl hx hxe hb2 e0 e1 e2 HM hB hW2 x0 x1 x2 c0 c1 HLC
          by_cases hf : xf = x
          · subst hf
            by_cases hz : 0 < zc
            · have hz2 : zc > 0 := hz
              have hz3 : decide (0 < zc) = true := decide_eq_true hz
              have HSK2 := Lib.hid (HSK.out (by omega))
              clear HSK
              go_quiet (fail)
              go_wp2
              go_roundw
              case rel => exact ⟨m + 1, by go_num, by omega, HSK2.out _ (below_drewNF _ HB2.out)⟩
              case measure => simp [intOf]; omega
            · have hz0 : zc = 0 := by omega
              have HZ0 := Lib.hid hz0
              have hz2 : ¬ zc > 0 := hz
              have hz3 : decide (0 < zc) = false := decide_eq_false hz
              have HSN := Lib.hid hsz2
              clear HSK hz q3 q4 hz0
              go_quiet (fail)
              obtain ⟨W3, hW3⟩ : ∃ W3, W2.drewN nq = W3 := ⟨_, rfl⟩
              have hb3 : Below wr.heap.size wr W3 := by rw [← hW3]; exact below_drewNF _ HB2.out
              have u1 : W3.cell? ⟨wr.heap.size, 1, none⟩ = some (.int .i64 yt) := by rw [← hW3]; exact HT1.out
              have hsz3 : wr.heap.size < W3.heap.size := by rw [← hW3]; exact HSN.out
              rw [hW3]
              clear hW3 t0 t1 t2 lc hz2 hz3
              by_cases hyv : yt = (v : Int)
              · have hyv2 : (yt == (v : Int)) = true := by simp [hyv]
                have HYE : Hid (ZP F wn (v : Int) (v : Int)) := HBF.out.zw xf v hlt HXL.out HE.out.1 (by rw [HE.out.2.2]; exact HZ0.out) (by rw [HE.out.2.1]; exact hyv)
                clear hyv
                go_wp2
                go_ret
                exact ⟨HB.out.trans (hb3.mono hszr), true, rfl, ⟨fun _ => HYE.out, fun _ => rfl⟩⟩
              · have hyv2 : (yt == (v : Int)) = false := by simp [hyv]
                have HS3 := Lib.hid (HS.out.keep hb3 (Nat.le_refl _))
                have HL3 := Lib.hid (HL.out.keep hb3 (Nat.le_refl _))
                have HHAS := Lib.hid (l00Has_any sa S S.length sc yt W3 rfl HS3.out.row.1 (by unfold maxLen; omega))
                have HYV := Lib.hid hyv
                clear hyv
                cases hh : hasB S yt with
                | true =>
                  have HNX : Hid (OpenM F wn dn (v : Int) w i (m + 1) (some xf) (.slice sa S.length sc) (.slice (some ⟨g, 0, none⟩) L.length c) W3) := ⟨L, S, g, c, sa, sc, rfl, rfl, HBF.out.has (by rw [HE.out.2.1]; exact (has_mem S yt).1 hh), HL3.out, HS3.out, HA.out, HB.out.trans (hb3.mono hszr), fun y h => by injection h with h; rw [← h]; exact HXL.out⟩
                  rw [hh] at HHAS
                  clear hh
                  go_wp2_with fail
                  refine HHAS.out.mono ?_; rintro e w' ⟨rfl, rfl⟩
                  go_wp2
                  go_roundw
                  case rel => exact ⟨m + 1, by go_num, by omega, HNX⟩
                  case measure => simp [intOf]; omega
                | false =>
                  have HNOT := Lib.hid (has_not hh)
                  rw [hh] at HHAS
                  clear hh
                  go_wp2_with fail
                  refine HHAS.out.mono ?_; rintro e w' ⟨rfl, rfl⟩
                  go_wp2_with fail
                  refine (put_any sa S S.length sc yt W3 rfl (by omega) (fun W hW => (HS3.out.keep hW (Nat.le_refl _)).row.1)).mono ?_
                  rintro e W4 ⟨v4, S', rfl, i4, hmem, hlen, b4⟩
                  obtain ⟨sa4, sc4, rfl, -, -⟩ := i4.form
                  have u4 := (b4.cell (p := ⟨wr.heap.size, 1, none⟩) hsz3).trans u1
                  have HL4 := Lib.hid (HL3.out.keep b4 (Nat.le_refl _))
                  have HI4 := Lib.hid i4
                  have hb04 : Below w.heap.size w W4 := (HB.out.trans (hb3.mono hszr)).trans (b4.mono (Nat.le_trans hszr hb3.size))
                  have HB04 := Lib.hid hb04
                  have hsz04 := hb04.size
                  have hsz34 := b4.size
                  have HADD := Lib.hid (HBF.out.add (S' := S') xf yt hlt HXL.out HE.out.1 (by rw [HE.out.2.2]; exact HZ0.out) HE.out.2.1 HYV.out ⟨q1, by omega⟩ HNOT.out hmem hlen)
                  have HGL := Lib.hid (ints_ltF HL3.out g rfl).2
                  clear i4 b4 hb04 hmem hlen u1
                  go_wp2_with (at_builtin; refine wpList_append_own_at _ rfl _ _ 22 rfl w.heap.size 2 i0 (.int .i64 0) 1 8 Tryd.underlying22 hi hz0 hz1 hz2 rfl (by decide) _ _ _ rfl (HL4.out.alloc _) ⟨W4.heap.size, 0, none⟩ 1 1 [.int .i64 yt] rfl rfl (cell_one_new _ _ _) ?d2 ?d3 ?d4 ?d5 ?_)
                  case d2 => simp [Value.oneCell']
                  case d3 => unfold maxLen; omega
                  case d4 => omega
                  case d5 => first | omega | (simp; omega)
                  intro v5 W5 hown5 hgrow5 _ hat5
                  have hl5 : Ints W5 w.heap.size v5 (L ++ [yt]) := ints_snocP hown5
                  have HB5 := Lib.hid (ints_belowF HB04.out (Nat.le_refl _) HL4.out _ hgrow5)
                  have hs5 : Ints W5 W3.heap.size (.slice sa4 S'.length sc4) S' := World.ownsRow.kept (World.ownsRow.alloc HI4.out _) hgrow5 (by
                    cases hq : (Value.slice sa4 S'.length sc4).ownBlock with
                    | none => exact .inl rfl
                    | some g9 =>
                      refine .inr (fun e => ?_)
                      have e1 : g9 = g := by injection e
                      have e2 := (ints_ltF HI4.out g9 hq).1
                      have e3 := HGL.out
                      omega)
                  have hap : ApV v5 (.slice sa4 S'.length sc4) := fun g1 g2 h1 h2 => by
                    have e2 := ints_ltF HI4.out g2 h2
                    rcases hat5 with h | h
                    · rw [h1] at h
                      have e1 : g1 = g := by injection h
                      have e3 := HGL.out
                      omega
                    · rw [h1] at h
                      have e3 : g1 = W4.heap.size + 1 := by simpa using h
                      omega
                  have hln : (L ++ [yt]).length = L.length + 1 := by simp
                  obtain ⟨g5, c5, hv5, -, -⟩ := ints_someF hl5 (by omega)
                  subst hv5
                  have HNX : Hid (OpenM F wn dn (v : Int) w i (m + 1) (some xf) (.slice sa4 S'.length sc4) (.slice (some ⟨g5, 0, none⟩) (L ++ [yt]).length c5) W5) := ⟨L ++ [yt], S', g5, c5, sa4, sc4, rfl, rfl, HADD.out, hl5, ints_low hs5 (Nat.le_trans HB.out.size (Nat.le_trans (Nat.le_of_lt HSN.out |> fun _ => hb3.size) (Nat.le_refl _))), hap, HB5.out, fun y h => by
                    injection h with h
                    rw [← h, List.getElem?_append_left hil]; exact HXL.out⟩
                  clear hown5 hgrow5 hat5 hl5 hs5 hap hln u4
                  go_wp2
                  go_roundw
                  case rel => exact ⟨m + 1, by go_num, by omega, HNX⟩
                  case measure => simp [intOf]; omega
          · have hf2 : (xf == x) = false := by simp [hf]
            have HSK2 := Lib.hid (HSK.out (fun h => hf h.1))
            have hf3 : (xf != x) = true := by simp [hf]
            clear HSK
            go_quiet (fail)
            go_wp2
            go_roundw
            case rel => exact ⟨m + 1, by go_num, by omega, HSK2.out _ (below_drewNF _ HB2.out)⟩
            case measure => simp [intOf]; omega
        · obtain rfl : m = wn := by omega
          have hltz : ¬ (m : Int) < (m : Int) := by omega
          have HNX : Hid (OpenM F m dn (v : Int) w (i + 1) 0 none (.slice sa S.length sc) (.slice (some ⟨g, 0, none⟩) L.length c) wr) := ⟨L, S, g, c, sa, sc, rfl, rfl, hbf.next, hL, hS, hA, hB, fun y h => by cases h⟩
          clear hbf hL hS hA hx hxl hxe hB HM
          go_wp2
          go_roundw
          case rel => exact ⟨i + 1, by go_num, by omega, HNX⟩
          case measure => simp [intOf]; omega
    · have hltz : ¬ (i : Int) < (L.length : Int) := by omega
      have HNO := Lib.hid (hbf.fin (by omega))
      have HB := Lib.hid hB
      clear hbf hL hS hA hB HM
      go_wp2
      go_ret
      exact ⟨HB.out, false, rfl, ⟨fun h => (by cases h), fun h => absurd h HNO.out⟩⟩
end Go.Proofs.YtmhkeiccemfpeaaDoor
