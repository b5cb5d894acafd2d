/- The enables of a switch: the model's side. -/
import Derived.Test.YtmhbgpappjfolaaSSide
import Derived.Test.YtmhbgpappjfolaaGateS
import Derived.Deep.CutRange
namespace Go.Proofs.Ytmhbgpappjfolaa
open Go.RowKit Go.Shelf
set_option linter.unusedVariables false
set_option linter.unusedSimpArgs false

theorem own_ne {w : World} {B X : Nat} {e size : Nat} {v : Value} {n : Nat} {xs : List Value} {cs : Array Value} {T : Nat} {fz : Nat × Nat} (h : w.ownsRow B e size v n xs) (hX : w.heap[X]? = some (.cells cs T fz)) (hT : T ≠ e) : v.ownBlock ≠ some X := by
  intro hv
  obtain ⟨c, fz2, hc⟩ := Lib.ownsRow_kind h X hv
  rw [hX] at hc
  injection hc with hc
  injection hc with h1 h2
  exact hT h2
theorem SideAt.mono {w : World} {B B' X : Nat} {on : Bool} {r : List Bool} (h : SideAt w B X on r) (hB : B' ≤ B) : SideAt w B' X on r := by
  obtain ⟨h1, v, h2, h3, h4⟩ := h
  refine ⟨by omega, v, h2, h3, ?_⟩
  rcases h4 with h | ⟨g, cap, cur, e, hg, r⟩
  · exact .inl h
  · exact .inr ⟨g, cap, cur, e, by omega, r⟩
theorem SideAt.block {w : World} {B X : Nat} {on : Bool} {r : List Bool} (h : SideAt w B X on r) : ∃ v, w.heap[X]? = some (.cells #[.bool on, v] TSd (0, 0)) := ⟨_, h.2.choose_spec.1⟩
theorem l07Level_u (b : Bool) (w : World) : Calls Try.prog 76 #[.bool b] w fun e w' => e = .returned (.int .u8 ((lvU b).toNat : Int)) ∧ w = w' := by
  cases b
  · exact l07Level_f w
  · exact l07Level_t w
/-- what lies in memory in a run -/
def RunSt (B0 X Y n : Nat) (v1 v2 : Value) (l0 l1 : List UInt8) (S : Sw) (w wr : World) : Prop :=
  Below B0 w wr ∧ SideAt wr B0 X S.e0 (S.q0.take n) ∧ SideAt wr B0 Y S.e1 (S.q1.take n) ∧ Buf wr B0 v1 l0 ∧ Buf wr B0 v2 l1
theorem notBo {w : World} {X : Nat} {cs : Array Value} {T : Nat} {fz : Nat × Nat} (h : w.heap[X]? = some (.cells cs T fz)) (hT : T ≠ TBo) : ∀ g, some X = some g → ∀ c fz, w.heap[g]? ≠ some (.cells c TBo fz) := by
  intro g e c fz2 hc
  injection e with e
  subst e
  rw [h] at hc
  injection hc with hc
  injection hc with h1 h2
  exact hT h2
theorem RunSt.drewN {B0 X Y n m : Nat} {v1 v2 : Value} {l0 l1 : List UInt8} {S : Sw} {w wr : World} (h : RunSt B0 X Y n v1 v2 l0 l1 S w wr) : RunSt B0 X Y n v1 v2 l0 l1 S w (wr.drewN m) :=
  ⟨⟨h.1.os, h.1.tape, h.1.output, h.1.size, h.1.block⟩, h.2⟩
theorem RunSt.downX {B0 X Y n : Nat} {v1 v2 : Value} {l0 l1 : List UInt8} {S : Sw} {w wr w' : World} {on : Bool} {q : List Bool} (h : RunSt B0 X Y n v1 v2 l0 l1 S w wr) (hXY : X ≠ Y) (hs : SideAt w' B0 X on (q.take n)) (hg : wr.grownBy w' (some X)) :
    RunSt B0 X Y n v1 v2 l0 l1 { S with e0 := on, q0 := q } w w' := by
  obtain ⟨hb, hx, hy, b1, b2⟩ := h
  obtain ⟨vx, hX⟩ := hx.block
  refine ⟨hb.trans (below_of_grown hg hx.1 ?_), hs, hy.grown hg (by intro e; injection e with e; exact hXY e) (notBo hX (by decide)), b1.kept hg (Or.inr (own_ne b1 hX (by decide))), b2.kept hg (Or.inr (own_ne b2 hX (by decide)))⟩
  have := hx.lt; have := hx.1; omega
theorem RunSt.downY {B0 X Y n : Nat} {v1 v2 : Value} {l0 l1 : List UInt8} {S : Sw} {w wr w' : World} {on : Bool} {q : List Bool} (h : RunSt B0 X Y n v1 v2 l0 l1 S w wr) (hXY : X ≠ Y) (hs : SideAt w' B0 Y on (q.take n)) (hg : wr.grownBy w' (some Y)) :
    RunSt B0 X Y n v1 v2 l0 l1 { S with e1 := on, q1 := q } w w' := by
  obtain ⟨hb, hx, hy, b1, b2⟩ := h
  obtain ⟨vy, hY⟩ := hy.block
  refine ⟨hb.trans (below_of_grown hg hy.1 ?_), hx.grown hg (by intro e; injection e with e; exact hXY e.symm) (notBo hY (by decide)), hs, b1.kept hg (Or.inr (own_ne b1 hY (by decide))), b2.kept hg (Or.inr (own_ne b2 hY (by decide)))⟩
  have := hy.lt; have := hy.1; omega
theorem side_app {B0 X : Nat} {v : Value} {l : List UInt8} {on : Bool} {r : List Bool} {wr w1 : World} {ob : Obj} (hs : SideAt wr B0 X on r) (hb : Buf wr B0 v l) (hg : (wr.alloc ob).grownBy w1 v.ownBlock) : SideAt w1 B0 X on r := by
  have h1 : SideAt (wr.alloc ob) B0 X on r := hs.below ((Below.refl _ _).alloc (Nat.le_refl _) _)
  obtain ⟨vx, hX⟩ := h1.block
  have hb2 : Buf (wr.alloc ob) B0 v l := World.ownsRow.alloc hb ob
  refine h1.grown hg (own_ne hb2 hX (by decide)) (fun g e c fz hc => ?_)
  exact own_ne hb2 hc (by decide) e
theorem below_app {B0 : Nat} {v : Value} {l : List UInt8} {w wr w1 : World} {ob : Obj} (h : Below B0 w wr) (hB : B0 ≤ w.heap.size) (hb : Buf wr B0 v l) (hg : (wr.alloc ob).grownBy w1 v.ownBlock) : Below B0 w w1 :=
  (h.alloc (Nat.le_trans hB h.size) ob).grown hg (by have := h.size; simp; omega) (fun k e => ((World.ownsRow.alloc hb ob).lt k e).1)
set_option maxHeartbeats 8000000 in
set_option maxRecDepth 100000 in
theorem l07Run_any (s n : Nat) (fi : Bool) (a b c : ByteArray) (w : World) (hn : n ≤ 5) (hsl : s < w.heap.size) (hc0 : w.cell? ⟨s, 0, none⟩ = some (.int .i64 (n : Int))) (hc1 : w.cell? ⟨s, 1, none⟩ = some (.int .i64 (chI fi))) (h : are3B a b c = true) :
    Calls Try.prog 66 #[.pointer (some ⟨s, 0, none⟩), .string a, .string b, .string c] w fun e w' =>
      e = .returned (.tuple #[.string (outS (en0 n fi a b c) a.size), .string (outS (en1 n fi a b c) a.size)]) ∧ Below w.heap.size w w' := by
  obtain ⟨i0, hi, hz0, hz1, hz2⟩ := info_parts info_u8
  obtain ⟨h1, h2, h4, h5, h6⟩ := (are3B_iff a b c).1 h
  have h400 := wave_le h1
  have hab : a.size ≤ b.size := Nat.le_of_eq h4.symm
  have hac : a.size ≤ c.size := Nat.le_of_eq h6.symm
  have HW := Lib.hid (And.intro h1 (And.intro h2 h5))
  obtain ⟨F, hF⟩ : ∃ F : Int, chI fi = F := ⟨_, rfl⟩
  rw [hF] at hc1
  have f0 : (F == 0) = !fi := by rw [← hF]; cases fi <;> rfl
  have f1 : (F == 1) = fi := by rw [← hF]; cases fi <;> rfl
  have HC := Lib.hid (And.intro hc0 hc1)
  clear h h1 h2 h4 h5 h6 hF hc0
  go_enter Try.func66, Try.ntmps66
  go_wp2_with fail
  refine (l07New_any s n hn (!fi) w hsl HC.out.1).mono ?_
  rintro e w1 ⟨rfl, sx, b1⟩
  have hz1w := sx.lt
  have hc1' : w1.cell? ⟨s, 1, none⟩ = some (.int .i64 F) := (b1.cell (p := ⟨s, 1, none⟩) hsl).trans HC.out.2
  have hc0' : w1.cell? ⟨s, 0, none⟩ = some (.int .i64 (n : Int)) := (b1.cell (p := ⟨s, 0, none⟩) hsl).trans HC.out.1
  have HC0 := Lib.hid hc0'
  have HSX := Lib.hid sx
  have HB1 := Lib.hid b1
  clear b1 sx hc1 hc0'
  go_wp2_with fail
  refine (l07New_any s n hn fi w1 (by omega) HC0.out).mono ?_
  rintro e w2 ⟨rfl, sy, b2⟩
  have hz2w := sy.lt
  obtain ⟨X, hX⟩ : ∃ X, w.heap.size = X := ⟨_, rfl⟩
  obtain ⟨Y, hY⟩ : ∃ Y, w1.heap.size = Y := ⟨_, rfl⟩
  have hXY : X ≠ Y := by omega
  have HB2 := Lib.hid (HB1.out.trans (b2.mono HB1.out.size))
  obtain ⟨w3, hw3⟩ : ∃ w3, w2.alloc (.cells #[] 5) = w3 := ⟨_, rfl⟩
  obtain ⟨w4, hw4⟩ : ∃ w4, w3.alloc (.cells #[] 5) = w4 := ⟨_, rfl⟩
  have hb3 : Below w2.heap.size w2 w3 := by rw [← hw3]; exact (Below.refl _ _).alloc (Nat.le_refl _) _
  have hb4 : Below w3.heap.size w3 w4 := by rw [← hw4]; exact (Below.refl _ _).alloc (Nat.le_refl _) _
  have HI : Hid (RunSt w.heap.size w.heap.size w1.heap.size n (.slice (some ⟨w2.heap.size, 0, none⟩) 0 0) (.slice (some ⟨w3.heap.size, 0, none⟩) 0 0) [] [] (swAt n fi a b c 0) w w4) := by
    refine ⟨(HB2.out.trans (hb3.mono HB2.out.size)).trans (hb4.mono (by have := HB2.out.size; have := hb3.size; omega)), ?_, ?_, ?_, ?_⟩
    · have hq : (swAt n fi a b c 0).q0.take n = List.replicate n (!fi) := by show (List.replicate 6 (!fi)).take n = _; rw [List.take_replicate, Nat.min_eq_left (by omega)]
      rw [hq]
      exact (((HSX.out.below b2).below hb3).below hb4)
    · have hq : (swAt n fi a b c 0).q1.take n = List.replicate n fi := by show (List.replicate 6 fi).take n = _; rw [List.take_replicate, Nat.min_eq_left (by omega)]
      rw [hq]
      exact (((sy.below hb3).below hb4).mono (by omega))
    · have h0 : w3.ownsRow w.heap.size 5 1 (.slice (some ⟨w2.heap.size, 0, none⟩) 0 0) 0 [] := by rw [← hw3]; exact World.ownsRow_lit w2 #[] 0 (by omega) (Nat.zero_le _) rfl
      rw [← hw4]
      exact World.ownsRow.alloc h0 _
    · rw [← hw4]
      exact World.ownsRow_lit w3 #[] 0 (by have := hb3.size; omega) (Nat.zero_le _) rfl
  have hO : w2.heap.size ≠ w3.heap.size := by rw [← hw3]; simp
  have HDJ : Hid (∀ g, (Value.slice (some ⟨w2.heap.size, 0, none⟩) 0 0).ownBlock = some g → (Value.slice (some ⟨w3.heap.size, 0, none⟩) 0 0).ownBlock ≠ some g) := fun g e e2 => by
    simp [Value.ownBlock] at e e2; omega
  rw [hX, hY] at HI
  obtain ⟨P, hP⟩ : ∃ P, w2.heap.size = P := ⟨_, rfl⟩
  obtain ⟨Q, hQ⟩ : ∃ Q, w3.heap.size = Q := ⟨_, rfl⟩
  rw [hP, hQ] at HI HDJ
  have hBX : X ≤ w.heap.size := by omega
  clear b2 hb3 hb4 sy hc1' hz1w hz2w hO
  go_wp2
  clear hw3 hw4 hP hQ
  go_loopw [12, 13, 14] (fun v1 v2 i wr => ∃ k : Nat, k ≤ a.size ∧ i = .int .i64 k ∧ Hid (RunSt X X Y n v1 v2 (outL (en0 n fi a b c) k) (outL (en1 n fi a b c) k) (swAt n fi a b c k) w wr) ∧ Hid (∀ g, v1.ownBlock = some g → v2.ownBlock ≠ some g)) (fun _ _ i _ => a.size - (intOf i).toNat)
  case atStart => exact ⟨0, Nat.zero_le _, rfl, HI, HDJ⟩
  case round =>
    obtain ⟨k, hk, rfl, HR, HDJ⟩ := hrel
    by_cases hlt : k < a.size
    · have hltb : k < b.size := by omega
      have hltc : k < c.size := by omega
      have HL0 := Lib.hid (outL_len (en0 n fi a b c) k)
      have HL1 := Lib.hid (outL_len (en1 n fi a b c) k)
      have HO0 := Lib.hid (outL_snoc (en0 n fi a b c) k)
      have HO1 := Lib.hid (outL_snoc (en1 n fi a b c) k)
      have ec : ((c[k].toNat : Int) == 48) = !bit c k := by rw [wave_at HW.out.2.2 k hltc]; cases bit c k <;> rfl
      have ec1 := bit_at c k hltc
      obtain ⟨dA, hdA⟩ : ∃ d, dnB a k = d := ⟨_, rfl⟩
      obtain ⟨dB, hdB⟩ : ∃ d, dnB b k = d := ⟨_, rfl⟩
      obtain ⟨ch, hch⟩ : ∃ d, bit c k = d := ⟨_, rfl⟩
      have HQL := Lib.hid (swAt_len n fi a b c k)
      have HN : Hid (swAt n fi a b c (k + 1) = swBx n dB ch (swAx n dA ch (swAt n fi a b c k))) := by rw [← hdA, ← hdB, ← hch]; rfl
      have HE0 : Hid (en0 n fi a b c k = (swAt n fi a b c (k + 1)).e0) := rfl
      have HE1 : Hid (en1 n fi a b c k = (swAt n fi a b c (k + 1)).e1) := rfl
      obtain ⟨S, hS⟩ : ∃ S, swAt n fi a b c k = S := ⟨_, rfl⟩
      rw [hS] at HN HQL HR
      obtain ⟨S1, hS1⟩ : ∃ S1, swAx n dA ch S = S1 := ⟨_, rfl⟩
      obtain ⟨S2, hS2⟩ : ∃ S2, swBx n dB ch S1 = S2 := ⟨_, rfl⟩
      have HQL1 : Hid (S1.q0.length = 6 ∧ S1.q1.length = 6) := by rw [← hS1]; exact swAx_len n dA ch S HQL.out
      have HN2 : Hid (swAt n fi a b c (k + 1) = S2) := by show _ = _; rw [HN.out, hS1, hS2]
      have HdA := Lib.hid hdA
      have HdB := Lib.hid hdB
      have HS1 := Lib.hid hS1
      have HS2 := Lib.hid hS2
      obtain ⟨l0, hl0⟩ : ∃ l, outL (en0 n fi a b c) k = l := ⟨_, rfl⟩
      obtain ⟨l1, hl1⟩ : ∃ l, outL (en1 n fi a b c) k = l := ⟨_, rfl⟩
      rw [hl0] at HR HL0 HO0
      rw [hl1] at HR HL1 HO1
      rw [hch] at ec ec1
      clear hdA hdB hch hS hS1 hS2 hl0 hl1 HN
      go_upto_region 8 with fail
      go_cut [51] from 31 to 116 (fun v wx => v = .bool dA ∧ wr = wx)
      case first =>
        by_cases hk0 : k = 0
        · have HD : Hid (dnB a k = false) := by show _ = _; rw [hk0]; simp [dnB]
          have t1 : ¬ 0 < k := by omega
          have t2 : decide (0 < k) = false := decide_eq_false t1
          have t3 : ¬ (0 : Int) < (k : Int) := by omega
          clear hk0
          go_wp2
          go_meet
          exact ⟨by rw [← HdA.out, HD.out], rfl⟩
        · obtain ⟨j, hj⟩ : ∃ j, k = j + 1 := ⟨k - 1, by omega⟩
          have t1 : 0 < k := by omega
          have t2 : decide (0 < k) = true := decide_eq_true t1
          have t3 : (0 : Int) < (k : Int) := by omega
          have hjl : j < a.size := by omega
          have e1 : ((a[k].toNat : Int) == 48) = !bit a k := by rw [wave_at HW.out.1 k hlt]; cases bit a k <;> rfl
          have e2 := bit_at a j hjl
          have wj : IntKind.i64.wrap ((k : Int) - 1) = (j : Int) := by rw [show (k : Int) - 1 = (j : Int) by omega]; exact IntWalk.i64_in _ (by omega)
          have HD : Hid (dnB a k = (!bit a k && bit a j)) := by show _ = _; rw [hj]; simp [dnB]
          obtain ⟨zk, hzk⟩ : ∃ z, bit a k = z := ⟨_, rfl⟩
          obtain ⟨zj, hzj⟩ : ∃ z, bit a j = z := ⟨_, rfl⟩
          rw [hzk] at e1 HD
          rw [hzj] at e2 HD
          clear hk0 hj hzk hzj
          cases zk <;> cases zj
          all_goals
            go_wp2
            go_meet
            exact ⟨by rw [← HdA.out, HD.out]; rfl, rfl⟩
      case rest =>
        obtain ⟨rfl, rfl⟩ := hcut
        go_upto_if 51 with fail
        go_cut [14] from 31 to 116 (fun v wx => v = .int .i64 k ∧ Hid (RunSt X X Y n u12 u13 l0 l1 S1 w wx))
        case first =>
          cases dA with
          | false =>
            go_wp2
            go_meet
            exact ⟨rfl, by show RunSt _ _ _ _ _ _ _ _ _ _ _; rw [← HS1.out]; exact HR.out⟩
          | true =>
            have cx : ∀ m, (wr.drewN m).cell? ⟨X, 0, none⟩ = some (.bool S.e0) := fun m => by
              obtain ⟨vv, hh⟩ := HR.out.2.1.block
              exact (Lib.cell_of_heap (w := wr) hh 0).trans rfl
            have cy : ∀ m, (wr.drewN m).cell? ⟨Y, 0, none⟩ = some (.bool S.e1) := fun m => by
              obtain ⟨vv, hh⟩ := HR.out.2.2.1.block
              exact (Lib.cell_of_heap (w := wr) hh 0).trans rfl
            have cx0 := cx 0
            have cy0 := cy 0
            have cx0' : wr.cell? ⟨X, 0, none⟩ = some (.bool S.e0) := cx0
            have cy0' : wr.cell? ⟨Y, 0, none⟩ = some (.bool S.e1) := cy0
            clear cx0 cy0
            have HDN := Lib.hid (fun (wish other : Bool) m => down_any X X n hn _ wish other S.q0 HQL.out.1 (wr.drewN m) (by have := HR.out.1.size; show X ≤ wr.heap.size; omega) (HR.out.2.1))
            have HST : Hid (S1 = swAx n true ch S) := HS1.out.symm
            obtain ⟨ux, hux⟩ : ∃ u, S.e0 = u := ⟨_, rfl⟩
            obtain ⟨uy, huy⟩ : ∃ u, S.e1 = u := ⟨_, rfl⟩
            have HUX := Lib.hid hux
            have HUY := Lib.hid huy
            rw [hux] at cx cx0'
            rw [huy] at cy cy0'
            clear hux huy
            cases ch <;> cases uy
            · have HDN2 := Lib.hid (HDN.out true false)
              clear HDN
              go_wp2
              refine wp_quiet_tail 16 (by kernel_rfl) (by kernel_rfl) ?_
              simp only [List.take_succ_cons, List.take_zero, List.drop_succ_cons, List.drop_zero]
              repeat go_big_quiet_step (fail)
              refine wpQuiet_nil ?_
              rintro _ ⟨nq, rfl⟩
              go_wp2_with fail
              refine (HDN2.out nq).mono ?_; rintro e w5 ⟨rfl, hs5, hg5⟩
              have hR5 := (RunSt.drewN (m := nq) HR.out).downX hXY hs5 hg5
              have HR5 : Hid (RunSt X X Y n u12 u13 l0 l1 S1 w w5) := by
                have e5 : S1 = { S with e0 := usedB n S.q0 true && !false, q0 := pushQ S.q0 true } := by
                  rw [HST.out]; unfold swAx; rw [if_pos rfl, HUY.out]; rfl
                show RunSt _ _ _ _ _ _ _ _ _ _ _
                rw [e5]; exact hR5
              clear hs5 hg5 hR5
              go_wp2
              go_meet
              exact ⟨rfl, HR5⟩
            · have HDN2 := Lib.hid (HDN.out false true)
              clear HDN
              go_wp2
              refine wp_quiet_tail 16 (by kernel_rfl) (by kernel_rfl) ?_
              simp only [List.take_succ_cons, List.take_zero, List.drop_succ_cons, List.drop_zero]
              repeat go_big_quiet_step (fail)
              refine wpQuiet_nil ?_
              rintro _ ⟨nq, rfl⟩
              go_wp2_with fail
              refine (HDN2.out nq).mono ?_; rintro e w5 ⟨rfl, hs5, hg5⟩
              have hR5 := (RunSt.drewN (m := nq) HR.out).downX hXY hs5 hg5
              have HR5 : Hid (RunSt X X Y n u12 u13 l0 l1 S1 w w5) := by
                have e5 : S1 = { S with e0 := usedB n S.q0 false && !true, q0 := pushQ S.q0 false } := by
                  rw [HST.out]; unfold swAx; rw [if_pos rfl, HUY.out]; rfl
                show RunSt _ _ _ _ _ _ _ _ _ _ _
                rw [e5]; exact hR5
              clear hs5 hg5 hR5
              go_wp2
              go_meet
              exact ⟨rfl, HR5⟩
            · have HDN2 := Lib.hid (HDN.out false false)
              clear HDN
              go_wp2
              refine wp_quiet_tail 16 (by kernel_rfl) (by kernel_rfl) ?_
              simp only [List.take_succ_cons, List.take_zero, List.drop_succ_cons, List.drop_zero]
              repeat go_big_quiet_step (fail)
              refine wpQuiet_nil ?_
              rintro _ ⟨nq, rfl⟩
              go_wp2_with fail
              refine (HDN2.out nq).mono ?_; rintro e w5 ⟨rfl, hs5, hg5⟩
              have hR5 := (RunSt.drewN (m := nq) HR.out).downX hXY hs5 hg5
              have HR5 : Hid (RunSt X X Y n u12 u13 l0 l1 S1 w w5) := by
                have e5 : S1 = { S with e0 := usedB n S.q0 false && !false, q0 := pushQ S.q0 false } := by
                  rw [HST.out]; unfold swAx; rw [if_pos rfl, HUY.out]; rfl
                show RunSt _ _ _ _ _ _ _ _ _ _ _
                rw [e5]; exact hR5
              clear hs5 hg5 hR5
              go_wp2
              go_meet
              exact ⟨rfl, HR5⟩
            · have HDN2 := Lib.hid (HDN.out false true)
              clear HDN
              go_wp2
              refine wp_quiet_tail 16 (by kernel_rfl) (by kernel_rfl) ?_
              simp only [List.take_succ_cons, List.take_zero, List.drop_succ_cons, List.drop_zero]
              repeat go_big_quiet_step (fail)
              refine wpQuiet_nil ?_
              rintro _ ⟨nq, rfl⟩
              go_wp2_with fail
              refine (HDN2.out nq).mono ?_; rintro e w5 ⟨rfl, hs5, hg5⟩
              have hR5 := (RunSt.drewN (m := nq) HR.out).downX hXY hs5 hg5
              have HR5 : Hid (RunSt X X Y n u12 u13 l0 l1 S1 w w5) := by
                have e5 : S1 = { S with e0 := usedB n S.q0 false && !true, q0 := pushQ S.q0 false } := by
                  rw [HST.out]; unfold swAx; rw [if_pos rfl, HUY.out]; rfl
                show RunSt _ _ _ _ _ _ _ _ _ _ _
                rw [e5]; exact hR5
              clear hs5 hg5 hR5
              go_wp2
              go_meet
              exact ⟨rfl, HR5⟩
        case rest =>
          obtain ⟨rfl, HC0⟩ := hcut
          go_upto_region 10 with fail
          go_cut [83] from 31 to 116 (fun v wx => v = .bool dB ∧ wc = wx)
          case first =>
            by_cases hk0 : k = 0
            · have HD : Hid (dnB b k = false) := by show _ = _; rw [hk0]; simp [dnB]
              have t1 : ¬ 0 < k := by omega
              have t2 : decide (0 < k) = false := decide_eq_false t1
              have t3 : ¬ (0 : Int) < (k : Int) := by omega
              clear hk0
              go_wp2
              go_meet
              exact ⟨by rw [← HdB.out, HD.out], rfl⟩
            · obtain ⟨j, hj⟩ : ∃ j, k = j + 1 := ⟨k - 1, by omega⟩
              have t1 : 0 < k := by omega
              have t2 : decide (0 < k) = true := decide_eq_true t1
              have t3 : (0 : Int) < (k : Int) := by omega
              have hjl : j < b.size := by omega
              have e1 : ((b[k].toNat : Int) == 48) = !bit b k := by rw [wave_at HW.out.2.1 k hltb]; cases bit b k <;> rfl
              have e2 := bit_at b j hjl
              have wj : IntKind.i64.wrap ((k : Int) - 1) = (j : Int) := by rw [show (k : Int) - 1 = (j : Int) by omega]; exact IntWalk.i64_in _ (by omega)
              have HD : Hid (dnB b k = (!bit b k && bit b j)) := by show _ = _; rw [hj]; simp [dnB]
              obtain ⟨zk, hzk⟩ : ∃ z, bit b k = z := ⟨_, rfl⟩
              obtain ⟨zj, hzj⟩ : ∃ z, bit b j = z := ⟨_, rfl⟩
              rw [hzk] at e1 HD
              rw [hzj] at e2 HD
              clear hk0 hj hzk hzj
              cases zk <;> cases zj
              all_goals
                go_wp2
                go_meet
                exact ⟨by rw [← HdB.out, HD.out]; rfl, rfl⟩
          case rest =>
            obtain ⟨rfl, rfl⟩ := hcut
            go_upto_if 83 with fail
            go_cut [14] from 31 to 116 (fun v wx => v = .int .i64 k ∧ Hid (RunSt X X Y n u12 u13 l0 l1 S2 w wx))
            case first =>
              cases dB with
              | false =>
                go_wp2
                go_meet
                exact ⟨rfl, by show RunSt _ _ _ _ _ _ _ _ _ _ _; rw [← HS2.out]; exact HC0.out⟩
              | true =>
                have cx : ∀ m, (wc.drewN m).cell? ⟨X, 0, none⟩ = some (.bool S1.e0) := fun m => by
                  obtain ⟨vv, hh⟩ := HC0.out.2.1.block
                  exact (Lib.cell_of_heap (w := wc) hh 0).trans rfl
                have cy : ∀ m, (wc.drewN m).cell? ⟨Y, 0, none⟩ = some (.bool S1.e1) := fun m => by
                  obtain ⟨vv, hh⟩ := HC0.out.2.2.1.block
                  exact (Lib.cell_of_heap (w := wc) hh 0).trans rfl
                have cx0 := cx 0
                have cy0 := cy 0
                have cx0' : wc.cell? ⟨X, 0, none⟩ = some (.bool S1.e0) := cx0
                have cy0' : wc.cell? ⟨Y, 0, none⟩ = some (.bool S1.e1) := cy0
                clear cx0 cy0
                have HDN := Lib.hid (fun (wish other : Bool) m => down_any X Y n hn _ wish other S1.q1 HQL1.out.2 (wc.drewN m) (by have := HC0.out.1.size; show X ≤ wc.heap.size; omega) (HC0.out.2.2.1))
                have HST : Hid (S2 = swBx n true ch S1) := HS2.out.symm
                obtain ⟨ux, hux⟩ : ∃ u, S1.e0 = u := ⟨_, rfl⟩
                obtain ⟨uy, huy⟩ : ∃ u, S1.e1 = u := ⟨_, rfl⟩
                have HUX := Lib.hid hux
                have HUY := Lib.hid huy
                rw [hux] at cx cx0'
                rw [huy] at cy cy0'
                clear hux huy
                cases ch <;> cases ux
                · have HDN2 := Lib.hid (HDN.out false false)
                  clear HDN
                  go_wp2
                  refine wp_quiet_tail 16 (by kernel_rfl) (by kernel_rfl) ?_
                  simp only [List.take_succ_cons, List.take_zero, List.drop_succ_cons, List.drop_zero]
                  repeat go_big_quiet_step (fail)
                  refine wpQuiet_nil ?_
                  rintro _ ⟨nq, rfl⟩
                  go_wp2_with fail
                  refine (HDN2.out nq).mono ?_; rintro e w5 ⟨rfl, hs5, hg5⟩
                  have hR5 := (RunSt.drewN (m := nq) HC0.out).downY hXY hs5 hg5
                  have HR5 : Hid (RunSt X X Y n u12 u13 l0 l1 S2 w w5) := by
                    have e5 : S2 = { S1 with e1 := usedB n S1.q1 false && !false, q1 := pushQ S1.q1 false } := by
                      rw [HST.out]; unfold swBx; rw [if_pos rfl, HUX.out]; rfl
                    show RunSt _ _ _ _ _ _ _ _ _ _ _
                    rw [e5]; exact hR5
                  clear hs5 hg5 hR5
                  go_wp2
                  go_meet
                  exact ⟨rfl, HR5⟩
                · have HDN2 := Lib.hid (HDN.out false true)
                  clear HDN
                  go_wp2
                  refine wp_quiet_tail 16 (by kernel_rfl) (by kernel_rfl) ?_
                  simp only [List.take_succ_cons, List.take_zero, List.drop_succ_cons, List.drop_zero]
                  repeat go_big_quiet_step (fail)
                  refine wpQuiet_nil ?_
                  rintro _ ⟨nq, rfl⟩
                  go_wp2_with fail
                  refine (HDN2.out nq).mono ?_; rintro e w5 ⟨rfl, hs5, hg5⟩
                  have hR5 := (RunSt.drewN (m := nq) HC0.out).downY hXY hs5 hg5
                  have HR5 : Hid (RunSt X X Y n u12 u13 l0 l1 S2 w w5) := by
                    have e5 : S2 = { S1 with e1 := usedB n S1.q1 false && !true, q1 := pushQ S1.q1 false } := by
                      rw [HST.out]; unfold swBx; rw [if_pos rfl, HUX.out]; rfl
                    show RunSt _ _ _ _ _ _ _ _ _ _ _
                    rw [e5]; exact hR5
                  clear hs5 hg5 hR5
                  go_wp2
                  go_meet
                  exact ⟨rfl, HR5⟩
                · have HDN2 := Lib.hid (HDN.out true false)
                  clear HDN
                  go_wp2
                  refine wp_quiet_tail 16 (by kernel_rfl) (by kernel_rfl) ?_
                  simp only [List.take_succ_cons, List.take_zero, List.drop_succ_cons, List.drop_zero]
                  repeat go_big_quiet_step (fail)
                  refine wpQuiet_nil ?_
                  rintro _ ⟨nq, rfl⟩
                  go_wp2_with fail
                  refine (HDN2.out nq).mono ?_; rintro e w5 ⟨rfl, hs5, hg5⟩
                  have hR5 := (RunSt.drewN (m := nq) HC0.out).downY hXY hs5 hg5
                  have HR5 : Hid (RunSt X X Y n u12 u13 l0 l1 S2 w w5) := by
                    have e5 : S2 = { S1 with e1 := usedB n S1.q1 true && !false, q1 := pushQ S1.q1 true } := by
                      rw [HST.out]; unfold swBx; rw [if_pos rfl, HUX.out]; rfl
                    show RunSt _ _ _ _ _ _ _ _ _ _ _
                    rw [e5]; exact hR5
                  clear hs5 hg5 hR5
                  go_wp2
                  go_meet
                  exact ⟨rfl, HR5⟩
                · have HDN2 := Lib.hid (HDN.out false true)
                  clear HDN
                  go_wp2
                  refine wp_quiet_tail 16 (by kernel_rfl) (by kernel_rfl) ?_
                  simp only [List.take_succ_cons, List.take_zero, List.drop_succ_cons, List.drop_zero]
                  repeat go_big_quiet_step (fail)
                  refine wpQuiet_nil ?_
                  rintro _ ⟨nq, rfl⟩
                  go_wp2_with fail
                  refine (HDN2.out nq).mono ?_; rintro e w5 ⟨rfl, hs5, hg5⟩
                  have hR5 := (RunSt.drewN (m := nq) HC0.out).downY hXY hs5 hg5
                  have HR5 : Hid (RunSt X X Y n u12 u13 l0 l1 S2 w w5) := by
                    have e5 : S2 = { S1 with e1 := usedB n S1.q1 false && !true, q1 := pushQ S1.q1 false } := by
                      rw [HST.out]; unfold swBx; rw [if_pos rfl, HUX.out]; rfl
                    show RunSt _ _ _ _ _ _ _ _ _ _ _
                    rw [e5]; exact hR5
                  clear hs5 hg5 hR5
                  go_wp2
                  go_meet
                  exact ⟨rfl, HR5⟩
            case rest =>
              obtain ⟨rfl, HC1⟩ := hcut
              obtain ⟨hb5, sx5, sy5, bu1, bu2⟩ := HC1.out
              obtain ⟨vx, hx5⟩ := sx5.block
              have c5 : wc.cell? ⟨X, 0, none⟩ = some (.bool S2.e0) := by rw [Lib.cell_of_heap hx5]; rfl
              have HBU1 := Lib.hid bu1
              have HBU2 := Lib.hid bu2
              have HSX5 := Lib.hid sx5
              have HSY5 := Lib.hid sy5
              have HBL5 := Lib.hid hb5
              have hz5 := hb5.size
              clear hb5 sx5 sy5 bu1 bu2 hx5 HC0 HR
              go_wp2_with (first | (at_builtin; refine wpList_append_own_at _ rfl _ _ 25 rfl X 5 i0 (.int .u8 0) 1 1 Try.underlying25 hi hz0 hz1 hz2 rfl (by decide) _ _ _ rfl (HBU1.out.alloc _) ⟨wc.heap.size, 0, none⟩ 1 1 [.int .u8 ((lvU S2.e0).toNat : Int)] rfl rfl ?c1 ?c2 ?c3 ?c4 ?c5 ?_) | (go_at_call 76; (with_reducible refine (l07Level_u S2.e0 _).mono ?_); rintro e w' ⟨rfl, rfl⟩))
              case c1 => exact cell_one_new _ _ _
              case c2 => simp [Value.oneCell']
              case c3 => rw [HL0.out]; unfold maxLen; omega
              case c4 => rw [HL0.out]; omega
              case c5 => first | omega | (simp; omega)
              intro v' w6 hown6 hgrow6 _ hat6
              have hsx6 : SideAt w6 X X S2.e0 (S2.q0.take n) := side_app HSX5.out HBU1.out hgrow6
              have hsy6 : SideAt w6 X Y S2.e1 (S2.q1.take n) := side_app HSY5.out HBU1.out hgrow6
              have hb6 : Below X w w6 := below_app HBL5.out (by omega) HBU1.out hgrow6
              have hbu6 : Buf w6 X v' (l0 ++ [lvU S2.e0]) := Buf.snoc hown6
              have hbv6 : Buf w6 X u13 l1 := (World.ownsRow.alloc HBU2.out _).kept hgrow6 (by
                cases hv : u13.ownBlock with
                | none => exact Or.inl rfl
                | some g => exact Or.inr (fun e => HDJ.out g e.symm hv))
              have HDJ6 : Hid (∀ g, v'.ownBlock = some g → u13.ownBlock ≠ some g) := fun g e e2 => by
                rcases hat6 with h | h
                · exact HDJ.out g (h.symm.trans e) e2
                · have h2 : g = wc.heap.size + 1 := by
                    have := e.symm.trans h
                    simpa using this
                  have := (HBU2.out.lt g e2).2
                  omega
              obtain ⟨vy, hy6⟩ := hsy6.block
              have c6 : w6.cell? ⟨Y, 0, none⟩ = some (.bool S2.e1) := by rw [Lib.cell_of_heap hy6]; rfl
              have HSX6 := Lib.hid hsx6
              have HSY6 := Lib.hid hsy6
              have HB6 := Lib.hid hb6
              have HBU6 := Lib.hid hbu6
              have HBV6 := Lib.hid hbv6
              have hz6 := hb6.size
              obtain ⟨vv, hvv⟩ : ∃ vv, v' = vv := ⟨_, rfl⟩
              clear hown6 hgrow6 hat6 hsx6 hsy6 hb6 hbu6 hbv6 hy6 hvv HSX5 HSY5 HBL5 HBU1 HBU2
              go_wp2_with (first | (at_builtin; refine wpList_append_own_at _ rfl _ _ 25 rfl X 5 i0 (.int .u8 0) 1 1 Try.underlying25 hi hz0 hz1 hz2 rfl (by decide) _ _ _ rfl (HBV6.out.alloc _) ⟨w6.heap.size, 0, none⟩ 1 1 [.int .u8 ((lvU S2.e1).toNat : Int)] rfl rfl ?d1 ?d2 ?d3 ?d4 ?d5 ?_) | (go_at_call 76; (with_reducible refine (l07Level_u S2.e1 _).mono ?_); rintro e w' ⟨rfl, rfl⟩))
              case d1 => exact cell_one_new _ _ _
              case d2 => simp [Value.oneCell']
              case d3 => rw [HL1.out]; unfold maxLen; omega
              case d4 => rw [HL1.out]; omega
              case d5 => first | omega | (simp; omega)
              intro v7 w7 hown7 hgrow7 _ hat7
              have HSX7 : Hid (SideAt w7 X X S2.e0 (S2.q0.take n)) := side_app HSX6.out HBV6.out hgrow7
              have HSY7 : Hid (SideAt w7 X Y S2.e1 (S2.q1.take n)) := side_app HSY6.out HBV6.out hgrow7
              have HB7 : Hid (Below X w w7) := below_app HB6.out (by omega) HBV6.out hgrow7
              have HBV7 : Hid (Buf w7 X v7 (l1 ++ [lvU S2.e1])) := Buf.snoc hown7
              have HBU7 : Hid (Buf w7 X v' (l0 ++ [lvU S2.e0])) := (World.ownsRow.alloc HBU6.out _).kept hgrow7 (by
                cases hv : v'.ownBlock with
                | none => exact Or.inl rfl
                | some g => exact Or.inr (fun e => HDJ6.out g hv e.symm))
              have HDJ7 : Hid (∀ g, v'.ownBlock = some g → v7.ownBlock ≠ some g) := fun g e e2 => by
                rcases hat7 with h | h
                · exact HDJ6.out g e (h.symm.trans e2)
                · have h2 : g = w6.heap.size + 1 := by
                    have := e2.symm.trans h
                    simpa using this
                  have := (HBU6.out.lt g e).2
                  omega
              clear hown7 hgrow7 hat7
              go_wp2
              go_roundw
              case rel =>
                refine ⟨k + 1, by omega, by go_num, ?_, HDJ7⟩
                show RunSt _ _ _ _ _ _ _ _ _ _ _
                rw [HO0.out, HO1.out, HE0.out, HE1.out, HN2.out]
                exact ⟨HB7.out, HSX7.out, HSY7.out, HBU7.out, HBV7.out⟩
              case measure => simp [intOf]; omega
    · obtain rfl : k = a.size := by omega
      have hc1 : ∀ m, (convert 25 9 u12).run Try.prog (wr.drewN m) = .ok (.string ⟨(outL (en0 n fi a b c) a.size).toArray⟩) (wr.drewN m) := fun m => run_buf_string _ X _ _ HR.out.2.2.2.1
      have hc2 : ∀ m, (convert 25 9 u13).run Try.prog (wr.drewN m) = .ok (.string ⟨(outL (en1 n fi a b c) a.size).toArray⟩) (wr.drewN m) := fun m => run_buf_string _ X _ _ HR.out.2.2.2.2
      have HB : Hid (Below w.heap.size w wr) := by show Below _ _ _; rw [hX]; exact HR.out.1
      clear hX
      go_wp2
      go_quiet (fail)
      go_wp2
      go_ret2
      exact ⟨rfl, ⟨HB.out.os, HB.out.tape, HB.out.output, HB.out.size, HB.out.block⟩⟩
end Go.Proofs.Ytmhbgpappjfolaa
