/- The differences of one event: addFrom. -/
import Derived.Test.YtkipgeecibimoaaQueue
import Derived.Test.YtkipgeecibimoaaMidMath
import Derived.Deep.LoopGhost
import Derived.Deep.RegionHeld3
import Derived.Test.YtkipgeecibimoaaIniMath
namespace Go.Proofs.Ytkipgeecibimoaa
open Go.RowKit
set_option linter.unusedVariables false

/-- the bounds whose numbers are F, below block b -/
def BdAt (w : World) (b : Nat) (a : Option Addr) (nb : Nat) (F : List Int) : Prop := ∀ k, k < nb → ∃ g, a = some ⟨g, 0, none⟩ ∧ g < b ∧ w.cell? ⟨g, k * 3, none⟩ = some (.int .i64 (F.getD (k * 3) 0)) ∧ w.cell? ⟨g, k * 3 + 1, none⟩ = some (.int .i64 (F.getD (k * 3 + 1) 0)) ∧ w.cell? ⟨g, k * 3 + 2, none⟩ = some (.int .i64 (F.getD (k * 3 + 2) 0))
theorem BdAt.grown {w w' : World} {b nb : Nat} {a : Option Addr} {F : List Int} (h : BdAt w b a nb F) (hg : w.grownBy w' (some b)) (hb : b < w.heap.size) : BdAt w' b a nb F := fun k hk => by
  obtain ⟨g, ha, hgb, c0, c1, c2⟩ := h k hk
  have far : ∀ j, w'.cell? ⟨g, j, none⟩ = w.cell? ⟨g, j, none⟩ := fun j => hg.cell_far ⟨g, j, none⟩ (Nat.lt_trans hgb hb) (fun e => by injection e with e; dsimp only at e; omega)
  exact ⟨g, ha, hgb, (far _).trans c0, (far _).trans c1, (far _).trans c2⟩
/-- what lies below the world W, block b apart, is as it was -/
theorem grown_low {W w w' : World} {b : Nat} (h : W.grownBy w (some b)) (hb : Below W.heap.size w w') : W.grownBy w' (some b) :=
  ⟨hb.os.trans h.os, hb.tape.trans h.tape, hb.output.trans h.output, Nat.le_trans h.size hb.size, fun k hk hne => (hb.block k hk).trans (h.block k hk hne)⟩
/-- each bound is one of n events -/
def FsN (F : List Int) (n nb : Nat) : Prop := ∀ k, k < nb → 0 ≤ F.getD (k * 3) 0 ∧ 0 ≤ F.getD (k * 3 + 1) 0
/-- at the head of a round -/
def HeadR (bs : List Bd) (L : Nat → Bd) (n i K T b gl : Nat) (D : Nat → Trails) (w1 : World) (gk : Nat) (ev ok : Value) (wr : World) : Prop :=
  w1.grownBy wr (some b) ∧ ∃ (m : Nat) (gt : Trails) (q : List Int), TM wr b m (rowD D i gt) ∧ QW wr gl q ∧ m + Phi T gt n ≤ K ∧
    ((∃ u : Nat, ev = .int .i64 (u : Int) ∧ ok = .bool true ∧ Mid bs L n i u 0 gt q ∧ gk = 2 * Phi T gt n + q.length + 1) ∨ (ev = .int .i64 0 ∧ ok = .bool false ∧ q = [] ∧ Fin1 bs n i gt))
/-- at the head of a bound's round -/
def InR (bs : List Bd) (L : Nat → Bd) (n i K T b gl u M : Nat) (D : Nat → Trails) (w1 : World) (k : Nat) (wr : World) : Prop :=
  w1.grownBy wr (some b) ∧ ∃ (m : Nat) (gt : Trails) (q : List Int), TM wr b m (rowD D i gt) ∧ QW wr gl q ∧ m + Phi T gt n ≤ K ∧ Mid bs L n i u k gt q ∧ 2 * Phi T gt n + q.length ≤ M
/-- what the call tells -/
def AddR (bs : List Bd) (n i K b : Nat) (D : Nat → Trails) (w : World) (e : Ending) (w' : World) : Prop :=
  w.grownBy w' (some b) ∧ ((e = .returned (.bool true) ∧ ∃ (m : Nat) (gt : Trails), TM w' b m (rowD D i gt) ∧ m ≤ K ∧ Fin1 bs n i gt) ∨ (e = .returned (.bool false) ∧ NegRing bs n))

/-- a world behind wr in which wr's next block is made -/
def Dn (wr W : World) : Prop := Below wr.heap.size wr W ∧ wr.heap.size < W.heap.size
theorem Dn.dr {wr W : World} (h : Dn wr W) : Dn wr W.drew := ⟨⟨h.1.os, h.1.tape, h.1.output, h.1.size, h.1.block⟩, h.2⟩
theorem Dn.al {wr W : World} (h : Dn wr W) (o : Obj) : Dn wr (W.alloc o) := ⟨h.1.alloc h.1.size o, by simp; have := h.2; omega⟩
theorem Dn.call {wr W W' : World} (h : Dn wr W) (hb : Below W.heap.size W W') : Dn wr W' := ⟨h.1.trans (hb.mono h.1.size), Nat.lt_of_lt_of_le h.2 hb.size⟩
theorem Dn.set {wr W : World} {p : Addr} (h : Dn wr W) (hp : wr.heap.size ≤ p.block) (v : Value) : Dn wr (W.setCell p v) := ⟨h.1.setCell hp v, by simpa using h.2⟩
theorem cell_drA {W : World} {a : Addr} {v : Value} (h : W.cell? a = some v) : W.drew.cell? a = some v := h
theorem cell_alloc_otherA {W : World} {a : Addr} {v : Value} {o o' : Obj} (h : (W.alloc o').cell? a = some v) (hlt : a.block < W.heap.size) : (W.alloc o).cell? a = some v := by
  have e : W.cell? a = some v := (((Below.refl W.heap.size W).alloc (Nat.le_refl _) o').cell (p := a) hlt).symm.trans h
  exact cell_alloc_kept e
theorem meetA {G : Prop} (X : Nat → World → Prop) (F : Nat → World → Prop) (h1 : Hid (∀ b W, F b W → X b W) → G) (h2 : ∀ b W, F b W → X b W) : G := h1 (Lib.hid h2)
theorem gen_endA {K : Act → World → Prop} {Q : Exit → Act → World → Prop} {E : Exit} {A : Act} (W0 : World) (F : World → Prop) (h0 : F W0) (k : ∀ W, F W → Exit.then K Q E A W) : Exit.then K Q E A W0 := k W0 h0

set_option maxHeartbeats 4000000 in
set_option maxRecDepth 100000 in
theorem addFrom_any (b m n nb capb S T K i : Nat) (a : Option Addr) (F : List Int) (bs : List Bd) (D : Nat → Trails) (w : World) (h : TM w b m (rowD D i fun _ => none)) (hb : BdAt w b a nb F) (hbs : BdsS bs n S) (hF : FsN F n nb)
    (hbm : ∀ k, k < nb → bdAt F k ∈ bs) (hL : ∀ x ∈ bs, ∃ j, j < nb ∧ bdAt F j = x) (hi : i < n) (hn : n ≤ 100) (hS : S ≤ 1000000) (hT : S * n ≤ T) (hK : m + 1 + n * (2 * T + 1) ≤ K) (hK2 : K < maxLen) (hnb : nb ≤ 1000000) :
    Calls Try.prog 188 #[.map (some b), .int .i64 (i : Int), .agg #[.int .i64 (n : Int), .slice a nb capb]] w fun e w' => AddR bs n i K b D w e w' := by
  have hlt := h.lt
  have wi : (Lit.int .i64 (i : Int)).wf = true := wfI (by omega) (by omega)
  have hbx := (Below.refl w.heap.size w).alloc (Nat.le_refl _) (.cells #[.int .i64 (n : Int), .slice a nb capb] 65)
  obtain ⟨w1, hu, ht1, hg1⟩ := (h.below hbx hlt).put i i 0 0 wi wi (by omega)
  have hu2 : (Instr.mapUpdate 150 (.map (some b)) (.agg #[.int .i64 (i : Int), .int .i64 (i : Int)]) (.agg #[.int .i64 0, .int .i64 0])).run Try.prog (w.alloc (.cells #[.int .i64 (n : Int), .slice a nb capb] 65)) = .ok () w1 := hu
  clear hu
  rw [updT_row] at ht1
  have hG1 : w.grownBy w1 (some b) := grown_trans (grown_below hbx) hg1
  have hsz1 : w.heap.size < w1.heap.size := by have := hg1.size; simp at this; omega
  have hne : ∀ j, some (⟨w.heap.size, j, none⟩ : Addr).block ≠ some b := fun j e => by injection e with e; dsimp only at e; omega
  have D0 : w1.cell? ⟨w.heap.size, 0, none⟩ = some (.int .i64 (n : Int)) := (hg1.cell_far ⟨w.heap.size, 0, none⟩ (by simp) (hne 0)).trans (by simp [go_sem])
  have D1 : w1.cell? ⟨w.heap.size, 1, none⟩ = some (.slice a nb capb) := (hg1.cell_far ⟨w.heap.size, 1, none⟩ (by simp) (hne 1)).trans (by simp [go_sem])
  have HB1 := Lib.hid (hb.grown hG1 hlt)
  have HT1 := Lib.hid ht1
  have HG1 := Lib.hid hG1
  have hgl : b < w1.heap.size := Nat.lt_trans hlt hsz1
  have HA := Lib.hid (add_new w1.heap.size i [] _ (QW.new w1) (by simp) rfl)
  have HALL := Lib.hid (And.intro hbs (And.intro hF (And.intro hbm (And.intro hL (And.intro hT (And.intro hK hK2))))))
  have HD := Lib.hid (And.intro D0 D1)
  clear h hb hbs hF hbm hL hT hK hK2 ht1 hg1 hG1 hbx hne D0 D1
  go_enter Try.func188, Try.ntmps188
  go_wp2_with fail
  refine HA.out.mono ?_; rintro e w3 ⟨rfl, hq3, hb3⟩
  have HTK := Lib.hid (take_some w1.heap.size i [] w3 hq3 (by simp))
  have HB3 := Lib.hid (((Below.refl w1.heap.size w1).alloc (Nat.le_refl _) _).trans hb3)
  clear hq3 hb3
  go_wp2_with fail
  refine HTK.out.mono ?_; rintro e w4 ⟨rfl, hq4, hb4⟩
  have HB4 := Lib.hid (HB3.out.trans hb4)
  have HQ4 := Lib.hid hq4
  clear hq4 hb4
  go_wp2
  go_loopg [8, 9] (2 * Phi T (setT (fun _ => none) i (0, 0)) n + 1) (fun gk ev ok wr => HeadR bs (bdAt F) n i K T b w1.heap.size D w1 gk ev ok wr)
  case atStart =>
    obtain ⟨hbs, hF, hbm, hL, hT, hK, hK2⟩ := HALL.out
    have := Phi_start T i n
    exact ⟨grown_below HB4.out, m + 1, _, [], HT1.out.below HB4.out hgl, HQ4.out, by omega, .inl ⟨i, rfl, rfl, Mid.start _ _ n i hi, rfl⟩⟩
  case round =>
    obtain ⟨hgr, m2, gt, q, htm, hq, hmk, ⟨u, rfl, rfl, hmid, hgk⟩ | ⟨rfl, rfl, rfl, hfin⟩⟩ := hrel
    · obtain ⟨W, hW⟩ : ∃ W, W = wr := ⟨_, rfl⟩
      subst hW
      have d1 : W.cell? ⟨w.heap.size, 1, none⟩ = some (.slice a nb capb) := (hgr.cell_far ⟨w.heap.size, 1, none⟩ hsz1 (fun e => by injection e with e; dsimp only at e; omega)).trans HD.out.2
      have HST := Lib.hid (show InR bs (bdAt F) n i K T b w1.heap.size u (2 * Phi T gt n + q.length) D w1 0 W from ⟨hgr, m2, gt, q, htm, hq, hmk, hmid, Nat.le_refl _⟩)
      have HGK := Lib.hid hgk
      clear hgr htm hq hmk hmid hgk
      go_wp2
      go_loopw [32] (fun kv wr => ∃ k : Nat, k ≤ nb ∧ kv = .int .i64 (k : Int) ∧ InR bs (bdAt F) n i K T b w1.heap.size u (2 * Phi T gt n + q.length) D w1 k wr) (fun kv _ => nb - (intOf kv).toNat)
      case atStart => exact ⟨0, Nat.zero_le _, rfl, HST.out⟩
      case round =>
        obtain ⟨k, hk, rfl, hin⟩ := hrel
        have d0 : wr.cell? ⟨w.heap.size, 0, none⟩ = some (.int .i64 (n : Int)) := (hin.1.cell_far ⟨w.heap.size, 0, none⟩ hsz1 (fun e => by injection e with e; dsimp only at e; omega)).trans HD.out.1
        by_cases hlk : k < nb
        · obtain ⟨hgr, m3, g3, q3, htm, hq, hmk, hmid, hM⟩ := hin
          obtain ⟨g, ha, hgb, c0, c1, c2⟩ := HB1.out.grown hgr hgl k hlk
          subst ha
          obtain ⟨x, hx⟩ : ∃ x : Nat, F.getD (k * 3) 0 = (x : Int) := ⟨(F.getD (k * 3) 0).toNat, by have := (HALL.out.2.1 k hlk).1; omega⟩
          obtain ⟨y, hy⟩ : ∃ y : Nat, F.getD (k * 3 + 1) 0 = (y : Int) := ⟨(F.getD (k * 3 + 1) 0).toNat, by have := (HALL.out.2.1 k hlk).2; omega⟩
          obtain ⟨z, hz⟩ : ∃ z : Int, F.getD (k * 3 + 2) 0 = z := ⟨_, rfl⟩
          have hbd : bdAt F k = ⟨x, y, z⟩ := by unfold bdAt; rw [hx, hy, hz]; simp
          rw [hx] at c0
          rw [hy] at c1
          rw [hz] at c2
          have HBD := Lib.hid hbd
          have hszr : w1.heap.size < wr.heap.size := hq.lt
          have HIN := Lib.hid (show w1.grownBy wr (some b) ∧ TM wr b m3 (rowD D i g3) ∧ QW wr w1.heap.size q3 ∧ m3 + Phi T g3 n ≤ K ∧ Mid bs (bdAt F) n i u k g3 q3 ∧ 2 * Phi T g3 n + q3.length ≤ 2 * Phi T gt n + q.length from ⟨hgr, htm, hq, hmk, hmid, hM⟩)
          clear hbd hx hy hz hgr htm hq hmk hmid hM
          by_cases hf : x = u
          · subst hf
            have q1 : (!((x : Int) == (x : Int))) = false := by simp
            go_wp2
            obtain ⟨W2, hW2⟩ : ∃ W2, wr.alloc (.cells #[.int .i64 (x : Int), .int .i64 (y : Int), .int .i64 z] 214) = W2 := ⟨_, rfl⟩
            have e0 : W2.cell? ⟨wr.heap.size, 0, none⟩ = some (.int .i64 (x : Int)) := by rw [← hW2]; simp [go_sem]
            have e1 : W2.cell? ⟨wr.heap.size, 1, none⟩ = some (.int .i64 (y : Int)) := by rw [← hW2]; simp [go_sem]
            have e2 : W2.cell? ⟨wr.heap.size, 2, none⟩ = some (.int .i64 z) := by rw [← hW2]; simp [go_sem]
            have hdn : Dn wr W2 := by rw [← hW2]; exact ⟨(Below.refl _ _).alloc (Nat.le_refl _) _, by simp⟩
            rw [hW2]
            clear hW2
            obtain ⟨⟨c, s⟩, hcs⟩ := HIN.out.2.2.2.2.1.hand.2
            obtain ⟨hxn, hcn, -⟩ := HIN.out.2.2.2.2.1.ok x c s hcs
            have hsS := HIN.out.2.2.2.2.1.ok.size HALL.out.1 hcs
            have hSn : S * n ≤ 100000000 := Nat.le_trans (Nat.mul_le_mul hS hn) (by decide)
            obtain ⟨-, hyn, hzS⟩ := HALL.out.1 _ (HALL.out.2.2.1 k hlk)
            rw [HBD.out] at hyn hzS
            dsimp only at hyn hzS
            have wx : (Lit.int .i64 (x : Int)).wf = true := wfI (by omega) (by omega)
            have wy : (Lit.int .i64 (y : Int)).wf = true := wfI (by omega) (by omega)
            have HLK : Hid (∀ W, Dn wr W → (Instr.lookup 150 (.map (some b)) (.agg #[.int .i64 (i : Int), .int .i64 (x : Int)]) false).run Try.prog W = .ok (.agg #[.int .i64 (c : Int), .int .i64 s]) W) := fun W hW => by
              have := (HIN.out.2.1.below hW.1 HIN.out.2.1.lt).look (i : Int) (x : Int) wi wx
              rw [GI_nat, row_same, hcs] at this
              exact this
            obtain ⟨c1, hc1⟩ : ∃ c1, c + 1 = c1 := ⟨_, rfl⟩
            obtain ⟨s1, hs1⟩ : ∃ s1, s + z = s1 := ⟨_, rfl⟩
            have HOV : Hid (∀ W, Calls Try.prog 204 #[.agg #[.int .i64 (c : Int), .int .i64 s], .agg #[.int .i64 (x : Int), .int .i64 (y : Int), .int .i64 z]] W fun e w' => e = .returned (.agg #[.int .i64 (c1 : Int), .int .i64 s1]) ∧ Below W.heap.size W w') := fun W => by
              have := over_any (c : Int) s x y z W (by omega) (by omega) (by omega) (by omega) (by omega) (by omega)
              rw [← hc1, ← hs1]
              rw [Int.natCast_add]
              exact this
            have hlk := HLK.out _ hdn
            have HC1 := Lib.hid hc1
            have HS1 := Lib.hid hs1
            have HCS := Lib.hid hcs
            clear hc1 hs1 hcs hsS hSn
            refine meetA ?X (fun b2 W => W.cell? ⟨b2, 0, none⟩ = some (.int .i64 (c1 : Int)) ∧ W.cell? ⟨b2, 1, none⟩ = some (.int .i64 s1) ∧ W.cell? ⟨wr.heap.size, 1, none⟩ = some (.int .i64 (y : Int)) ∧ Dn wr W ∧ wr.heap.size < b2 ∧ b2 < W.heap.size) ?h1 ?h2
            case h1 =>
              intro K1
              go_region_held3 (fun W => W.cell? ⟨wr.heap.size, 0, none⟩ = some (.int .i64 (x : Int)) ∧ W.cell? ⟨wr.heap.size, 1, none⟩ = some (.int .i64 (y : Int)) ∧ W.cell? ⟨wr.heap.size, 2, none⟩ = some (.int .i64 z) ∧ Dn wr W ∧ (Instr.lookup 150 (.map (some b)) (.agg #[.int .i64 (i : Int), .int .i64 (x : Int)]) false).run Try.prog W = .ok (.agg #[.int .i64 (c : Int), .int .i64 s]) W) (first | (go_split_ands; (refine ⟨?_, ?_, ?_, ?_, ?_⟩ <;> (first | (with_reducible assumption) | ((with_reducible apply cell_kept) <;> (with_reducible assumption)) | ((with_reducible refine cell_drA ?_); (first | (with_reducible assumption) | ((with_reducible refine cell_alloc_kept ?_); (with_reducible assumption)))) | ((with_reducible refine cell_alloc_kept ?_); (with_reducible assumption)) | ((with_reducible refine cell_set_kept ?_ (cell_set_kept ?_ ?_)) <;> (first | (with_reducible assumption) | ((try have hq0 := sza.out); (try simp at hq0); (have hq9 := hdn.2); (try dsimp only); omega))) | ((with_reducible apply cell_alloc_otherA) <;> (first | (with_reducible assumption) | ((try have hq0 := sza.out); (try simp at hq0); (have hq9 := hdn.2); (try dsimp only); omega))) | ((with_reducible refine HLK.out _ ?_); (repeat' (first | (with_reducible assumption) | (with_reducible refine Dn.dr ?_) | (with_reducible refine Dn.al ?_ _) | (with_reducible refine Dn.call ?_ hba) | (with_reducible refine Dn.set ?_ ?_ _) | ((try have hq0 := sza.out); (try simp at hq0); (have hq9 := hdn.2); (try dsimp only); omega)))) | ((repeat' (first | (with_reducible assumption) | (with_reducible refine Dn.dr ?_) | (with_reducible refine Dn.al ?_ _) | (with_reducible refine Dn.call ?_ hba) | (with_reducible refine Dn.set ?_ ?_ _) | ((try have hq0 := sza.out); (try simp at hq0); (have hq9 := hdn.2); (try dsimp only); omega))); done))))) (first | (go_at_call 204; (with_reducible refine (HOV.out _).mono ?_); rintro e wa ⟨rfl, hba⟩; have sza := Lib.hid hba.size; (try (refine fresh2 (W2.heap.size) (.int .i64 0) (.int .i64 0) hba ?_ ?_ ?_ ?_ ?_ ?_; (focus (first | (with_reducible assumption) | (simp [go_sem]; done))); (focus (first | (with_reducible assumption) | (simp [go_sem]; done))); (focus (first | (with_reducible assumption) | (simp [go_sem]; done))); (focus (first | (with_reducible assumption) | (simp [go_sem]; done))); (focus (first | (simp; done) | (simp; omega) | omega)); intro ae1 ae2 ae4 ae5 ae7))))
              · refine gen_endA _ (fun W => W.cell? ⟨wa.heap.size, 0, none⟩ = some (.int .i64 (c1 : Int)) ∧ W.cell? ⟨wa.heap.size, 1, none⟩ = some (.int .i64 s1) ∧ W.cell? ⟨wr.heap.size, 1, none⟩ = some (.int .i64 (y : Int)) ∧ Dn wr W ∧ wr.heap.size < wa.heap.size ∧ wa.heap.size < W.heap.size) ?_ ?_
                · go_split_ands
                  refine ⟨by simp [go_sem, *], by simp [go_sem, *], by (first | (with_reducible assumption) | ((with_reducible apply cell_kept) <;> (with_reducible assumption)) | ((with_reducible refine cell_drA ?_); (first | (with_reducible assumption) | ((with_reducible refine cell_alloc_kept ?_); (with_reducible assumption)))) | ((with_reducible refine cell_alloc_kept ?_); (with_reducible assumption)) | ((with_reducible refine cell_set_kept ?_ (cell_set_kept ?_ ?_)) <;> (first | (with_reducible assumption) | ((try have hq0 := sza.out); (try simp at hq0); (have hq9 := hdn.2); (try dsimp only); omega))) | ((with_reducible apply cell_alloc_otherA) <;> (first | (with_reducible assumption) | ((try have hq0 := sza.out); (try simp at hq0); (have hq9 := hdn.2); (try dsimp only); omega))) | ((with_reducible refine HLK.out _ ?_); (repeat' (first | (with_reducible assumption) | (with_reducible refine Dn.dr ?_) | (with_reducible refine Dn.al ?_ _) | (with_reducible refine Dn.call ?_ hba) | (with_reducible refine Dn.set ?_ ?_ _) | ((try have hq0 := sza.out); (try simp at hq0); (have hq9 := hdn.2); (try dsimp only); omega)))) | ((repeat' (first | (with_reducible assumption) | (with_reducible refine Dn.dr ?_) | (with_reducible refine Dn.al ?_ _) | (with_reducible refine Dn.call ?_ hba) | (with_reducible refine Dn.set ?_ ?_ _) | ((try have hq0 := sza.out); (try simp at hq0); (have hq9 := hdn.2); (try dsimp only); omega))); done)), by (repeat' (first | (with_reducible assumption) | (with_reducible refine Dn.dr ?_) | (with_reducible refine Dn.al ?_ _) | (with_reducible refine Dn.call ?_ hba) | (with_reducible refine Dn.set ?_ ?_ _) | ((try have hq0 := sza.out); (try simp at hq0); (have hq9 := hdn.2); (try dsimp only); omega))), by ((try have hq0 := sza.out); (try simp at hq0); (have hq9 := hdn.2); (try dsimp only); omega), by ((try have hq0 := sza.out); (try simp at hq0); (have hq9 := hdn.2); (try simp); (try omega))⟩
                · intro Wn hW
                  generalize wa.heap.size = g2 at hW ⊢
                  exact K1.out g2 Wn hW
              · refine gen_endA _ (fun W => W.cell? ⟨W2.heap.size, 0, none⟩ = some (.int .i64 (c1 : Int)) ∧ W.cell? ⟨W2.heap.size, 1, none⟩ = some (.int .i64 s1) ∧ W.cell? ⟨wr.heap.size, 1, none⟩ = some (.int .i64 (y : Int)) ∧ Dn wr W ∧ wr.heap.size < W2.heap.size ∧ W2.heap.size < W.heap.size) ?_ ?_
                · go_split_ands
                  refine ⟨by simp [go_sem, *], by simp [go_sem, *], by (first | (with_reducible assumption) | ((with_reducible apply cell_kept) <;> (with_reducible assumption)) | ((with_reducible refine cell_drA ?_); (first | (with_reducible assumption) | ((with_reducible refine cell_alloc_kept ?_); (with_reducible assumption)))) | ((with_reducible refine cell_alloc_kept ?_); (with_reducible assumption)) | ((with_reducible refine cell_set_kept ?_ (cell_set_kept ?_ ?_)) <;> (first | (with_reducible assumption) | ((try have hq0 := sza.out); (try simp at hq0); (have hq9 := hdn.2); (try dsimp only); omega))) | ((with_reducible apply cell_alloc_otherA) <;> (first | (with_reducible assumption) | ((try have hq0 := sza.out); (try simp at hq0); (have hq9 := hdn.2); (try dsimp only); omega))) | ((with_reducible refine HLK.out _ ?_); (repeat' (first | (with_reducible assumption) | (with_reducible refine Dn.dr ?_) | (with_reducible refine Dn.al ?_ _) | (with_reducible refine Dn.call ?_ hba) | (with_reducible refine Dn.set ?_ ?_ _) | ((try have hq0 := sza.out); (try simp at hq0); (have hq9 := hdn.2); (try dsimp only); omega)))) | ((repeat' (first | (with_reducible assumption) | (with_reducible refine Dn.dr ?_) | (with_reducible refine Dn.al ?_ _) | (with_reducible refine Dn.call ?_ hba) | (with_reducible refine Dn.set ?_ ?_ _) | ((try have hq0 := sza.out); (try simp at hq0); (have hq9 := hdn.2); (try dsimp only); omega))); done)), by (repeat' (first | (with_reducible assumption) | (with_reducible refine Dn.dr ?_) | (with_reducible refine Dn.al ?_ _) | (with_reducible refine Dn.call ?_ hba) | (with_reducible refine Dn.set ?_ ?_ _) | ((try have hq0 := sza.out); (try simp at hq0); (have hq9 := hdn.2); (try dsimp only); omega))), by ((try have hq0 := sza.out); (try simp at hq0); (have hq9 := hdn.2); (try dsimp only); omega), by ((try have hq0 := sza.out); (try simp at hq0); (have hq9 := hdn.2); (try simp); (try omega))⟩
                · intro Wn hW
                  generalize W2.heap.size = g2 at hW ⊢
                  exact K1.out g2 Wn hW
              · refine gen_endA _ (fun W => W.cell? ⟨W2.heap.size, 0, none⟩ = some (.int .i64 (c1 : Int)) ∧ W.cell? ⟨W2.heap.size, 1, none⟩ = some (.int .i64 s1) ∧ W.cell? ⟨wr.heap.size, 1, none⟩ = some (.int .i64 (y : Int)) ∧ Dn wr W ∧ wr.heap.size < W2.heap.size ∧ W2.heap.size < W.heap.size) ?_ ?_
                · go_split_ands
                  refine ⟨by simp [go_sem, *], by simp [go_sem, *], by (first | (with_reducible assumption) | ((with_reducible apply cell_kept) <;> (with_reducible assumption)) | ((with_reducible refine cell_drA ?_); (first | (with_reducible assumption) | ((with_reducible refine cell_alloc_kept ?_); (with_reducible assumption)))) | ((with_reducible refine cell_alloc_kept ?_); (with_reducible assumption)) | ((with_reducible refine cell_set_kept ?_ (cell_set_kept ?_ ?_)) <;> (first | (with_reducible assumption) | ((try have hq0 := sza.out); (try simp at hq0); (have hq9 := hdn.2); (try dsimp only); omega))) | ((with_reducible apply cell_alloc_otherA) <;> (first | (with_reducible assumption) | ((try have hq0 := sza.out); (try simp at hq0); (have hq9 := hdn.2); (try dsimp only); omega))) | ((with_reducible refine HLK.out _ ?_); (repeat' (first | (with_reducible assumption) | (with_reducible refine Dn.dr ?_) | (with_reducible refine Dn.al ?_ _) | (with_reducible refine Dn.call ?_ hba) | (with_reducible refine Dn.set ?_ ?_ _) | ((try have hq0 := sza.out); (try simp at hq0); (have hq9 := hdn.2); (try dsimp only); omega)))) | ((repeat' (first | (with_reducible assumption) | (with_reducible refine Dn.dr ?_) | (with_reducible refine Dn.al ?_ _) | (with_reducible refine Dn.call ?_ hba) | (with_reducible refine Dn.set ?_ ?_ _) | ((try have hq0 := sza.out); (try simp at hq0); (have hq9 := hdn.2); (try dsimp only); omega))); done)), by (repeat' (first | (with_reducible assumption) | (with_reducible refine Dn.dr ?_) | (with_reducible refine Dn.al ?_ _) | (with_reducible refine Dn.call ?_ hba) | (with_reducible refine Dn.set ?_ ?_ _) | ((try have hq0 := sza.out); (try simp at hq0); (have hq9 := hdn.2); (try dsimp only); omega))), by ((try have hq0 := sza.out); (try simp at hq0); (have hq9 := hdn.2); (try dsimp only); omega), by ((try have hq0 := sza.out); (try simp at hq0); (have hq9 := hdn.2); (try simp); (try omega))⟩
                · intro Wn hW
                  generalize W2.heap.size = g2 at hW ⊢
                  exact K1.out g2 Wn hW
            case h2 =>
              intro g2 W ⟨k0, k1, k2, hdW, hg2, hg3⟩
              clear e0 e1 e2 hdn hlk
              have htW := HIN.out.2.1.below hdW.1 HIN.out.2.1.lt
              have d0W : W.cell? ⟨w.heap.size, 0, none⟩ = some (.int .i64 (n : Int)) := (hdW.1.cell (p := ⟨w.heap.size, 0, none⟩) (Nat.lt_trans hsz1 hszr)).trans d0
              have HGW : Hid (w1.grownBy W (some b)) := grown_low HIN.out.1 (hdW.1.mono (Nat.le_of_lt hszr))
              have HDW := Lib.hid hdW
              by_cases hs : Short g3 y s1
              · have HSH := Lib.hid (shorten_yes b m3 (rowD D i g3) i y c1 s1 W htW wi wy (by rw [row_same]; exact hs) (by have := HIN.out.2.2.2.1; have := HALL.out.2.2.2.2.2.2; omega))
                have HS := Lib.hid hs
                clear htW hs hdW
                go_wp2_with fail
                refine HSH.out.mono ?_; rintro e W5 ⟨rfl, ht5, hg5⟩
                have f0 : W5.cell? ⟨g2, 0, none⟩ = some (.int .i64 (c1 : Int)) := (hg5.cell_far ⟨g2, 0, none⟩ hg3 (fun e => by injection e with e; dsimp only at e; omega)).trans k0
                have f1 : W5.cell? ⟨wr.heap.size, 1, none⟩ = some (.int .i64 (y : Int)) := (hg5.cell_far ⟨wr.heap.size, 1, none⟩ HDW.out.2 (fun e => by injection e with e; dsimp only at e; omega)).trans k2
                have f2 : W5.cell? ⟨w.heap.size, 0, none⟩ = some (.int .i64 (n : Int)) := (hg5.cell_far ⟨w.heap.size, 0, none⟩ (by have := HDW.out.2; dsimp only; omega) (fun e => by injection e with e; dsimp only at e; omega)).trans d0W
                rw [updT_row] at ht5
                have HT5 := Lib.hid ht5
                have HG5 := Lib.hid hg5
                clear ht5 hg5 k0 k1 k2 d0W
                have hsB : Short g3 (bdAt F k).t (s + (bdAt F k).m) := by rw [HBD.out]; dsimp only; rw [HS1.out]; exact HS.out
                have hfB : (bdAt F k).f = x := by rw [HBD.out]
                have HSB := Lib.hid hsB
                have HFB := Lib.hid hfB
                clear hsB hfB
                by_cases hcn2 : c1 < n
                · have q2 : decide ((n : Int) ≤ (c1 : Int)) = false := by simp; omega
                  have q4 : decide (n ≤ c1) = false := by simp; omega
                  have hqW := (HIN.out.2.2.1.below HDW.out.1).grown HG5.out hgl
                  have hql := HIN.out.2.2.2.2.1.size
                  have hqn : q3.length ≤ 1000 := by omega
                  have hless := HIN.out.2.2.2.2.1.less HALL.out.1 HALL.out.2.2.2.2.1 (HALL.out.2.2.1 k hlk) HFB.out HCS.out HSB.out (by rw [HC1.out]; exact hcn2)
                  rw [HBD.out] at hless
                  dsimp only at hless
                  rw [HC1.out, HS1.out] at hless
                  have HYES : Hid (∀ q' : List Int, q'.Nodup → (∀ t : Int, t ∈ q' ↔ t ∈ q3 ∨ t = (y : Int)) → Mid bs (bdAt F) n i x (k + 1) (setT g3 y (c1, s1)) q') := fun q' hn' hq' => by
                    have := HIN.out.2.2.2.2.1.yes HALL.out.1 (HALL.out.2.2.1 k hlk) HFB.out HCS.out HSB.out (by rw [HC1.out]; exact hcn2) hn' (by rw [HBD.out]; exact hq')
                    rw [HBD.out] at this
                    dsimp only at this
                    rw [HC1.out, HS1.out] at this
                    exact this
                  have HNX : Hid (∀ (q' : List Int) (W' : World), QW W' w1.heap.size q' → Below w1.heap.size W5 W' → q'.length ≤ q3.length + 1 → q'.Nodup → (∀ t : Int, t ∈ q' ↔ t ∈ q3 ∨ t = (y : Int)) → InR bs (bdAt F) n i K T b w1.heap.size x (2 * Phi T gt n + q.length) D w1 (k + 1) W') := fun q' W' hq' hb' hl' hn' hm' => by
                    have p1 := HIN.out.2.2.2.1
                    have p2 := HIN.out.2.2.2.2.2
                    exact ⟨grown_low (grown_trans HGW.out HG5.out) hb', m3 + 1, setT g3 y (c1, s1), q', HT5.out.below hb' hgl, hq', by omega, HYES.out q' hn' hm', by omega⟩
                  have hnd := HIN.out.2.2.2.2.1.nodup
                  cases hx : hasB q3 (y : Int) with
                  | true =>
                    have hin : (y : Int) ∈ q3 := by unfold hasB at hx; exact List.contains_iff_mem.1 hx
                    have HAD := Lib.hid (add_has w1.heap.size y q3 W5 hqW hqn hx)
                    have HN2 : Hid (∀ W', QW W' w1.heap.size q3 → Below w1.heap.size W5 W' → InR bs (bdAt F) n i K T b w1.heap.size x (2 * Phi T gt n + q.length) D w1 (k + 1) W') := fun W' h1 h2 => HNX.out q3 W' h1 h2 (by omega) hnd (fun t => ⟨.inl, fun h => h.elim id (fun e => by rw [e]; exact hin)⟩)
                    clear hqW hql hqn hless hnd hx hin hcn2
                    go_wp2_with fail
                    refine HAD.out.mono ?_; rintro e W6 ⟨rfl, hq6, hb6⟩
                    have HX := Lib.hid (HN2.out W6 hq6 hb6)
                    clear hq6 hb6
                    go_wp2
                    go_roundw
                    case rel => exact ⟨k + 1, by omega, by go_num, HX.out⟩
                    case measure => simp [intOf]; omega
                  | false =>
                    have hin : (y : Int) ∉ q3 := by unfold hasB at hx; exact fun e => by rw [List.contains_iff_mem.2 e] at hx; cases hx
                    have HAD := Lib.hid (add_new w1.heap.size y q3 W5 hqW hqn hx)
                    have HN2 : Hid (∀ W', QW W' w1.heap.size (q3 ++ [(y : Int)]) → Below w1.heap.size W5 W' → InR bs (bdAt F) n i K T b w1.heap.size x (2 * Phi T gt n + q.length) D w1 (k + 1) W') := fun W' h1 h2 => HNX.out (q3 ++ [(y : Int)]) W' h1 h2 (by simp) (List.nodup_append.2 ⟨hnd, by simp, fun a ha c hc => by
                      obtain rfl : c = (y : Int) := by simpa using hc
                      exact fun e => hin (e ▸ ha)⟩) (fun t => by simp)
                    clear hqW hql hqn hless hnd hx hin hcn2
                    go_wp2_with fail
                    refine HAD.out.mono ?_; rintro e W6 ⟨rfl, hq6, hb6⟩
                    have HX := Lib.hid (HN2.out W6 hq6 hb6)
                    clear hq6 hb6
                    go_wp2
                    go_roundw
                    case rel => exact ⟨k + 1, by omega, by go_num, HX.out⟩
                    case measure => simp [intOf]; omega
                · have q2 : decide ((n : Int) ≤ (c1 : Int)) = true := by simp; omega
                  have q4 : decide (n ≤ c1) = true := by simp; omega
                  have HNR : Hid (NegRing bs n) := TrOk.bad HALL.out.1 hi hn HIN.out.2.2.2.2.1.ok (bdAt F k) HCS.out (HALL.out.2.2.1 k hlk) HFB.out HSB.out (by rw [HC1.out]; omega)
                  clear hcn2
                  go_wp2
                  go_ret
                  exact ⟨grown_trans HG1.out (grown_trans HGW.out HG5.out), .inr ⟨rfl, HNR.out⟩⟩
              · obtain ⟨c0, y0, hk0, hy0⟩ : ∃ c0 y0, g3 y = some (c0, y0) ∧ y0 ≤ s1 := by
                  cases hg : g3 y with
                  | none => exact absurd (fun c y h => by rw [hg] at h; cases h) hs
                  | some v =>
                    obtain ⟨c0, y0⟩ := v
                    refine ⟨c0, y0, rfl, Int.not_lt.1 fun hlt2 => hs fun c2 y2 h2 => ?_⟩
                    rw [hg] at h2
                    obtain ⟨rfl, rfl⟩ : c0 = c2 ∧ y0 = y2 := by simpa using h2
                    exact hlt2
                have HSH := Lib.hid (shorten_no b m3 (rowD D i g3) i y c1 s1 W htW wi wy c0 y0 (by rw [row_same]; exact hk0) hy0)
                have HNX : Hid (∀ W', Below W.heap.size W W' → InR bs (bdAt F) n i K T b w1.heap.size x (2 * Phi T gt n + q.length) D w1 (k + 1) W') := fun W' hb' => by
                  have hb2 : Below wr.heap.size wr W' := HDW.out.1.trans (hb'.mono HDW.out.1.size)
                  obtain ⟨hgr, htm, hq, hmk, hmid, hM⟩ := HIN.out
                  exact ⟨grown_low hgr (hb2.mono (Nat.le_of_lt hszr)), m3, g3, q3, htm.below hb2 htm.lt, hq.below hb2, hmk, hmid.no HCS.out (c0 := c0) (y := y0) (by rw [HBD.out]; exact hk0) (by rw [HBD.out]; dsimp only; rw [HS1.out]; exact hy0), hM⟩
                clear htW hs hdW hk0 hy0
                go_wp2_with fail
                refine HSH.out.mono ?_; rintro e W5 ⟨rfl, hb5⟩
                have HX := Lib.hid (HNX.out W5 hb5)
                clear hb5
                go_wp2
                go_roundw
                case rel => exact ⟨k + 1, by omega, by go_num, HX.out⟩
                case measure => simp [intOf]; omega
          · have q1 : ((x : Int) == (u : Int)) = false := by simp; omega
            have HNX : Hid (∀ W', Below wr.heap.size wr W' → InR bs (bdAt F) n i K T b w1.heap.size u (2 * Phi T gt n + q.length) D w1 (k + 1) W') := fun W' hb => by
              obtain ⟨hgr, htm, hq, hmk, hmid, hM⟩ := HIN.out
              exact ⟨grown_low hgr (hb.mono (Nat.le_of_lt hszr)), m3, g3, q3, htm.below hb htm.lt, hq.below hb, hmk, hmid.skip (by rw [HBD.out]; exact hf), hM⟩
            clear hf
            go_wp2
            go_roundw
            case rel => exact ⟨k + 1, by omega, by go_num, HNX.out _ (by
              repeat' (first | exact Below.refl _ _ | (refine Below.setCell ?_ ?_ _) | (refine Below.alloc ?_ ?_ _))
              all_goals (first | (simp; done) | (simp; omega)))⟩
            case measure => simp [intOf]; omega
        · obtain rfl : nb = k := by omega
          obtain ⟨hgr, m3, g3, q3, htm, hq, hmk, hmid, hM⟩ := hin
          have hql := hmid.size
          cases q3 with
          | nil =>
            have HTK2 := Lib.hid (take_none w1.heap.size wr hq)
            have HFN : Hid (∀ W', Below wr.heap.size wr W' → HeadR bs (bdAt F) n i K T b w1.heap.size D w1 0 (.int .i64 0) (.bool false) W') := fun W' hb =>
              ⟨grown_low hgr (hb.mono (Nat.le_of_lt hq.lt)), m3, g3, [], htm.below hb htm.lt, hq.below hb, hmk, .inr ⟨rfl, rfl, rfl, hmid.fin HALL.out.2.2.2.1⟩⟩
            clear hgr htm hq hmk hmid hM hql
            go_wp2_with fail
            refine HTK2.out.mono ?_; rintro e w5 ⟨rfl, hb5⟩
            have HB5 := Lib.hid hb5
            clear hb5
            go_wp2
            go_roundg 0
            case rel => exact HFN.out _ HB5.out
            case measure => have := HGK.out; omega
          | cons v q4 =>
            have hql4 : q4.length ≤ 1000 := by simp at hql; omega
            obtain ⟨vn, rfl, hvn, hmid2⟩ := hmid.next HALL.out.2.2.2.1
            have HTK2 := Lib.hid (take_some w1.heap.size (vn : Int) q4 wr hq hql4)
            have HFN : Hid (∀ W', QW W' w1.heap.size q4 → Below w1.heap.size wr W' → HeadR bs (bdAt F) n i K T b w1.heap.size D w1 (2 * Phi T g3 n + q4.length + 1) (.int .i64 (vn : Int)) (.bool true) W') := fun W' hq' hb =>
              ⟨grown_low hgr hb, m3, g3, q4, htm.below hb hgl, hq', hmk, .inl ⟨vn, rfl, rfl, hmid2, rfl⟩⟩
            have HM : Hid (2 * Phi T g3 n + q4.length + 1 ≤ 2 * Phi T gt n + q.length) := by simp at hM; exact hM
            clear hgr htm hq hmk hmid hM hql hmid2
            go_wp2_with fail
            refine HTK2.out.mono ?_; rintro e w5 ⟨rfl, hq5, hb5⟩
            have HB5 := Lib.hid hb5
            have HQ5 := Lib.hid hq5
            clear hb5 hq5
            go_wp2
            go_roundg (2 * Phi T g3 n + q4.length + 1)
            case rel => exact HFN.out _ HQ5.out HB5.out
            case measure => have := HGK.out; have := HM.out; omega
    · have HF1 := Lib.hid hfin
      have HTM := Lib.hid htm
      have HGR := Lib.hid (grown_trans HG1.out hgr)
      clear hfin htm hgr hq
      go_wp2
      go_ret
      exact ⟨HGR.out, .inl ⟨rfl, m2, gt, HTM.out, by omega, HF1.out⟩⟩
end Go.Proofs.Ytkipgeecibimoaa
