/- NeededBounds: the program's side. -/
import Derived.Test.YtlpdiodkolcfcabNeedS
import Derived.Test.YtlpdiodkolcfcabCatB
import Derived.Lib.OwnKind
namespace Go.Proofs.Ytlpdiodkolcfcab
open Go.RowKit
set_option linter.unusedVariables false
set_option linter.unusedSimpArgs false

theorem cell_three_newB (w : World) (x y z : Value) (t : TypeId) : ∀ j u, [x, y, z][j]? = some u → (w.alloc (.cells #[x, y, z] t)).cell? ((⟨w.heap.size, 0, none⟩ : Addr).add j) = some u := by
  intro j u h
  rcases j with _ | _ | _ | j
  · simp at h; subst h; simp [go_sem]
  · simp at h; subst h; simp [go_sem]
  · simp at h; subst h; simp [go_sem]
  · simp at h
theorem own_neN {w : World} {B X : Nat} {e size : Nat} {v : Value} {n : Nat} {xs : List Value} {cs : Array Value} {T : Nat} {fz : Nat × Nat} (h : w.ownsRow B e size v n xs) (hX : w.heap[X]? = some (.cells cs T fz)) (hT : T ≠ e) : v.ownBlock ≠ some X := by
  intro hv
  obtain ⟨c, fz2, hc⟩ := Lib.ownsRow_kind h X hv
  rw [hX] at hc
  injection hc with hc
  injection hc with h1 h2
  exact hT h2
theorem rows_other {w : World} {B B2 : Nat} {e1 e2 s1 s2 n1 n2 : Nat} {v1 v2 : Value} {x1 x2 : List Value} (h1 : w.ownsRow B e1 s1 v1 n1 x1) (h2 : w.ownsRow B2 e2 s2 v2 n2 x2) (hT : e2 ≠ e1) : v1.ownBlock = none ∨ v1.ownBlock ≠ v2.ownBlock := by
  cases hv : v2.ownBlock with
  | none =>
    cases hv1 : v1.ownBlock with
    | none => exact .inl rfl
    | some g => exact .inr (fun e => by cases e)
  | some g =>
    obtain ⟨c, fz, hc⟩ := Lib.ownsRow_kind h2 g hv
    exact .inr (own_neN h1 hc hT)
theorem recs_one (F : List Int) : (∀ u ∈ F.map (Value.int .i64), u.oneCell' = true) := fun u hu => by
  obtain ⟨x, _, rfl⟩ := List.mem_map.1 hu; rfl
theorem rest_cells {w : World} {B nb cap gb : Nat} {F : List Int} (h : Recs w B (.slice (some ⟨gb, 0, none⟩) nb cap) nb F) (i c : Nat) (hi : i ≤ nb) : CatVB w (.slice (some ⟨gb, i * 3, none⟩) (nb - i) c) (nb - i) ((F.drop (i * 3)).map (Value.int .i64)) := by
  have hF := h.1
  refine ⟨by rw [List.length_map, List.length_drop, hF]; omega, recs_one _, .inr ⟨⟨gb, i * 3, none⟩, c, rfl, fun j u hj => ?_⟩⟩
  rw [List.getElem?_map] at hj
  obtain ⟨x, hx, rfl⟩ := Option.map_eq_some_iff.1 hj
  rw [List.getElem?_drop] at hx
  have hlt := (List.getElem?_eq_some_iff.1 hx).1
  obtain ⟨a', cap', hv, _, kk⟩ := h.form
  obtain ⟨g, hg, -, -, hc, -⟩ := kk (i * 3 + j) hlt
  simp only [Value.slice.injEq] at hv
  rw [← hv.1] at hg
  simp only [Option.some.injEq, Addr.mk.injEq, and_true] at hg
  subst hg
  have e : Addr.add ⟨gb, i * 3, none⟩ j = ⟨gb, i * 3 + j, none⟩ := by unfold Addr.add; split <;> simp_all
  rw [e, hc]
  have := (List.getElem?_eq_some_iff.1 hx).2
  rw [this]
theorem rest_cells2 {w : World} {B nb cap gb : Nat} {F : List Int} (h : Recs w B (.slice (some ⟨gb, 0, none⟩) nb cap) nb F) (i : Nat) (hi : i ≤ nb) (hc : nb ≤ cap) : CatVB w (.slice (if cap = i then some ⟨gb, 0, none⟩ else some ⟨gb, i * 3, none⟩) (nb - i) (cap - i)) (nb - i) ((F.drop (i * 3)).map (Value.int .i64)) := by
  by_cases e : cap = i
  · rw [if_pos e]
    have hF := h.1
    have h0 : nb - i = 0 := by omega
    have hd : F.drop (i * 3) = [] := List.drop_eq_nil_of_le (by omega)
    rw [hd, h0]
    refine ⟨rfl, fun u hu => ?_, Or.inr ⟨_, _, rfl, fun j u hj => ?_⟩⟩
    · simp at hu
    · simp at hj
  · rw [if_neg e]; exact rest_cells h i _ hi
theorem meetN {G : Prop} (X : Nat → Nat → Option Addr → Nat → World → Prop) (F : Nat → Option Addr → Nat → World → Prop) (h1 : Hid (∀ b c v n W, F b v n W → X b c v n W) → G) (h2 : ∀ b c v n W, F b v n W → X b c v n W) : G := h1 (Lib.hid h2)
theorem gen_endN {K : Act → World → Prop} {Q : Exit → Act → World → Prop} {E : Exit} {A : Act} (W0 : World) (F : World → Prop) (h0 : F W0) (k : ∀ W, F W → Exit.then K Q E A W) : Exit.then K Q E A W0 := k W0 h0
/-- a row that was made keeps, whatever is made later, and whatever is stored into another block -/
theorem recs_al {w : World} {B n : Nat} {v : Value} {F : List Int} (h : Recs w B v n F) (o : Obj) : Recs (w.alloc o) B v n F := h.keep ((Below.refl _ _).alloc (Nat.le_refl _) _) (Nat.le_refl _)
theorem recs_set {w : World} {B n : Nat} {v : Value} {F : List Int} (h : Recs w B v n F) (p : Addr) (x : Value) (hne : v.ownBlock ≠ some p.block) : Recs (w.setCell p x) B v n F := by
  obtain ⟨hF, h1, ⟨rfl, hn⟩ | ⟨g, cap, cur, rfl, hg, hh, rest⟩⟩ := h
  · exact ⟨hF, h1, .inl ⟨rfl, hn⟩⟩
  · have hne2 : g ≠ p.block := fun e => hne (by rw [← e]; rfl)
    exact ⟨hF, h1, .inr ⟨g, cap, cur, rfl, hg, (Below.heap_setCell _ _ _ _ hne2).trans hh, rest⟩⟩
theorem recs_dr {w : World} {B n : Nat} {v : Value} {F : List Int} (h : Recs w B v n F) : Recs w.drew B v n F := h.keep ((Below.refl w.heap.size w).drew) (Nat.le_refl _)
theorem nd_ok {e : Int} {nb : Nat} {F : List Int} {M : Nat → Nat → Int} {ok : Bool} {l : List Int} {D : Nat → Trails} (hC : NdC e nb F M ok l) (hd : diaB e nb F = true) (hL : Least (keptB F [] nb) e.toNat D) : ok = true := by
  obtain ⟨he1, he2, hnb, -⟩ := diaB_okG hd
  obtain ⟨n, rfl⟩ : ∃ n : Nat, e = (n : Int) := ⟨e.toNat, by omega⟩
  obtain ⟨q1, q2⟩ := hC.mat hd
  have en : ((n : Int)).toNat = n := by simp
  rw [en] at q1 q2 hL
  exact hC.iff.2 ⟨hd, fun a ha => (least_table (dia_fs hd |> keptB_in (W := [])) (by omega) hL q1 q2).1 a (by simpa using ha)⟩
theorem nd_no {e : Int} {nb : Nat} {F : List Int} {M : Nat → Nat → Int} {ok : Bool} {l : List Int} (hC : NdC e nb F M ok l) (hn : diaB e nb F = true → NegRing (keptB F [] nb) e.toNat) : ok = false := by
  cases ok with
  | false => rfl
  | true =>
    obtain ⟨hd, hp⟩ := hC.iff.1 rfl
    obtain ⟨n, rfl⟩ : ∃ n : Nat, e = (n : Int) := ⟨e.toNat, by have := (diaB_okG hd).1; omega⟩
    obtain ⟨q1, q2⟩ := hC.mat hd
    have hr := hn hd
    rw [show ((n : Int)).toNat = n by simp] at q1 q2 hr hp
    obtain ⟨a, ha, hlt⟩ := ring_table (keptB_in (W := []) (dia_fs hd)) hr q2
    have := hp a ha
    omega
theorem nd_fol {n nb : Nat} {F : List Int} {Ws outs : Nat → List Int} {i k : Nat} (hF : F.length = nb * 3) (hd : diaB (n : Int) nb F = true) (h : NdS F nb n Ws outs i) (hi : i ≤ nb) (hk : k < i) (x y z : Int) (hx : F.getD (k * 3) 0 = x) (hy : F.getD (k * 3 + 1) 0 = y) (hz : F.getD (k * 3 + 2) 0 = z) :
    ∃ (M : Nat → Nat → Int) (ok : Bool), FolM (n : Int) (othN (Ws k) nb k) (others F (Ws k) k) x y z M ∧ (ok = true ↔ FolP (n : Int) (othN (Ws k) nb k) (others F (Ws k) k) M x y z) ∧ (Ws (k + 1)).contains (k : Int) = ok ∧ outs (k + 1) = (if ok then outs k else outs k ++ [(k : Int)]) := by
  obtain ⟨M, ok, h1, h2, h3, h4, h5⟩ := h.step k hk
  obtain ⟨q1, -⟩ := h.facts k (by omega)
  have hm := others_mem hF (show k < nb by omega) q1
  have en : ((n : Int)).toNat = n := by simp
  refine ⟨M, ok, fun _ _ => ?_, ?_, h.has hk ok h4, h5⟩
  · rw [en]; exact ⟨h1.congr hm, h2.congr hm⟩
  · rw [h3, hx, hy, hz]
    have hb := (diaB_okG hd).2.2.2 k (by omega)
    rw [hx, hy, hz] at hb
    unfold FolP
    rw [en]
    exact ⟨fun h => ⟨others_dia hF (by omega) hd, hb, h.1, h.2⟩, fun h => ⟨h.2.2.1, h.2.2.2⟩⟩

def Dn2 (wr W : World) : Prop := Below wr.heap.size wr W
theorem Dn2.dr {wr W : World} (h : Dn2 wr W) : Dn2 wr W.drew := ⟨h.os, h.tape, h.output, h.size, h.block⟩
theorem Dn2.al {wr W : World} (h : Dn2 wr W) (o : Obj) : Dn2 wr (W.alloc o) := Below.alloc h h.size o
theorem Dn2.call {wr W W' : World} (h : Dn2 wr W) (hb : Below W.heap.size W W') : Dn2 wr W' := Below.trans h (hb.mono h.size)
theorem Dn2.set {wr W : World} {p : Addr} (h : Dn2 wr W) (hp : wr.heap.size ≤ p.block) (v : Value) : Dn2 wr (W.setCell p v) := Below.setCell h hp v
def RecE3 (w : World) (B : Nat) (v : Value) (n : Nat) (F : List Int) : Prop := Recs w B v n F
set_option maxHeartbeats 8000000 in
set_option maxRecDepth 100000 in
theorem implNd (B : Nat) (e : Int) (a : Option Addr) (nb cap : Nat) (F : List Int) (M : Nat → Nat → Int) (ok : Bool) (l : List Int) (w : World) (hr : Recs w B (.slice a nb cap) nb F) (hl : nb ≤ 1048576) (hC : NdC e nb F M ok l) :
    Calls Try.prog 22 #[.agg #[.int .i64 e, .slice a nb cap]] w fun r w' => Below w.heap.size w w' ∧ ∃ v, r = .returned (.tuple #[v, .bool ok]) ∧ Ints w' w.heap.size v l := by
  obtain ⟨i0, hi, hz0, hz1, hz2⟩ := info_parts info_i64
  obtain ⟨i1, ji, jz0, jz1, jz2⟩ := info_parts info_catB
  have hb0 : Below w.heap.size w (w.alloc (.cells #[.int .i64 e, .slice a nb cap] 32)) := (Below.refl _ _).alloc (Nat.le_refl _) _
  obtain ⟨w0, hw0⟩ : ∃ w0, w.alloc (.cells #[.int .i64 e, .slice a nb cap] 32) = w0 := ⟨_, rfl⟩
  have HP : Hid (At2 w0 w.heap.size (.int .i64 e) (.slice a nb cap)) := by rw [← hw0]; exact At2.new w _ _ _
  have HR : Hid (Recs w0 B (.slice a nb cap) nb F) := by rw [← hw0]; exact hr.keep hb0 (Nat.le_refl _)
  rw [hw0] at hb0
  have HB0 := Lib.hid hb0
  have HV := Lib.hid (difs_any B e a nb cap F w0 HR.out hl)
  obtain ⟨c0, c1, -, -⟩ := HP.out
  have HC := Lib.hid hC
  have HFL := Lib.hid hr.1
  clear hr hb0 hC
  go_enter Try.func22, Try.ntmps22
  go_wp2_with fail
  refine HV.out.mono ?_; rintro r w1 ⟨b1, ⟨hd, bm, m, D, rfl, hb, ht, hls, hout⟩ | ⟨hneg, rfl⟩⟩
  · obtain ⟨he1, he2, hnb, -⟩ := diaB_okG hd
    obtain rfl := nd_ok HC.out hd hls
    obtain ⟨Ws, outs, hS, hlo⟩ := HC.out.yes rfl
    subst hlo
    obtain ⟨n, rfl⟩ : ∃ n : Nat, e = (n : Int) := ⟨e.toNat, by omega⟩
    have HS : Hid (NdS F nb n Ws outs nb) := by show NdS F nb n Ws outs nb; simpa using hS
    have HD := Lib.hid hd
    have HB1 := Lib.hid b1
    have hz1w : w.heap.size < w1.heap.size := Nat.lt_of_lt_of_le HP.out.lt b1.size
    have hn10 : n ≤ 10 := by omega
    clear c0 c1
    obtain ⟨c0, c1, -, -⟩ := HP.out.below b1 HP.out.lt
    clear hd hb ht hls hout b1 hw0 hS he1 he2
    have HI0 : Hid (Ints w1 w1.heap.size (.slice none 0 0) (outs 0)) := by show Ints _ _ _ _; rw [HS.out.o0]; exact Ints.nil _ _
    have HK0 : Hid (Recs w1 w1.heap.size (.slice none 0 0) (kcnt (Ws 0) 0) (krows F (Ws 0) 0)) := ⟨rfl, World.ownsRow_nil _ _ _ _⟩
    have HBR0 : Hid (Below w1.heap.size w1 w1) := Below.refl _ _
    go_wp2
    go_loopw [6, 7, 8, 9, 10, 21] (fun ov kv _ _ _ i wr => ∃ k : Nat, k ≤ nb ∧ i = .int .i64 k ∧ Hid (Ints wr w1.heap.size ov (outs k)) ∧ Hid (Recs wr w1.heap.size kv (kcnt (Ws k) k) (krows F (Ws k) k)) ∧ Hid (Below w1.heap.size w1 wr)) (fun _ _ _ _ _ i _ => nb - (intOf i).toNat)
    case atStart => exact ⟨0, Nat.zero_le _, rfl, HI0, HK0, HBR0⟩
    case round =>
      obtain ⟨k, hk, rfl, HO, HK, HBW⟩ := hrel
      clear HI0 HK0 HBR0 c0 c1
      have hb0r := HB1.out.trans (HBW.out.mono HB1.out.size)
      have HBR := Lib.hid (HB0.out.trans (hb0r.mono HB0.out.size))
      have HB0R := Lib.hid hb0r
      clear hb0r
      by_cases hlt : k < nb
      · have hltz : (k : Int) < (nb : Int) := by omega
        obtain ⟨c0, c1, -, -⟩ := HP.out.below HB0R.out HP.out.lt
        obtain ⟨gb, x, y, z, hag, -, -, ⟨e0, e1, e2⟩, x0, x1, x2⟩ := (HR.out.keep HB0R.out (Nat.le_refl _)).at k hlt
        obtain ⟨M2, ok2, hM2, hok2, hcon, hout2⟩ := nd_fol HFL.out HD.out HS.out (Nat.le_refl _) hlt x y z e0 e1 e2
        obtain ⟨-, hb1, hb2, hb3, hb4, hb5, hb6⟩ := (diaB_okG HD.out).2.2.2 k hlt
        rw [e0] at hb1 hb2
        rw [e1] at hb3 hb4
        have HM2 := Lib.hid (And.intro hM2 (And.intro hok2 (And.intro hcon hout2)))
        have wx : (Lit.int .i64 x).wf = true := wfI (by omega) (by omega)
        have wy : (Lit.int .i64 y).wf = true := wfI (by omega) (by omega)
        have HXYZ := Lib.hid (And.intro e0 (And.intro e1 e2))
        have HRR := Lib.hid (HR.out.keep HB0R.out (Nat.le_refl _))
        subst hag
        obtain ⟨fc1, fc2, fc3, fc4⟩ := HS.out.facts k (by omega)
        have hkc := kcnt_le (Ws k) k
        have HKN : Hid (kcnt (Ws k) k ≤ 1000000) := by show _ ≤ _; omega
        have HRN : Hid (nb - (k + 1) ≤ 1000000) := by show _ ≤ _; omega
        have HOL : Hid ((outs k).length ≤ 24) := by show _ ≤ _; omega
        have HKL : Hid (kcnt (Ws k) k ≤ 24) := by show _ ≤ _; omega
        have hwr1 : IntKind.i64.wrap ((k : Int) + 1) = ((k + 1 : Nat) : Int) := by rw [IntWalk.i64_in _ (by omega)]; omega
        obtain ⟨k1, hk1⟩ : ∃ k1, k + 1 = k1 := ⟨_, rfl⟩
        have HK1 := Lib.hid hk1
        have hk1n : k1 ≤ nb := by omega
        have hk1z : (k1 : Int) ≤ (nb : Int) := by omega
        have hnk : (nb : Int) - (k1 : Int) = ((nb - k1 : Nat) : Int) := by omega
        have hfr := HK.out.form
        obtain ⟨ka, kc, hkv, -, -⟩ := hfr
        subst hkv
        have hkcap : nb ≤ cap := by
          rcases HRR.out.2.2 with ⟨h0, -⟩ | ⟨g', cap', cur, hv, -, -, hc, -⟩
          · simp at h0
          · simp only [Value.slice.injEq] at hv; omega
        rw [hk1] at hwr1 HRN
        have HCK : Hid (∀ W, Dn wr W → CatVB W (.slice ka (kcnt (Ws k) k) kc) (kcnt (Ws k) k) ((krows F (Ws k) k).map (Value.int .i64)) ∧ CatVB W (.slice (if cap = k1 then some ⟨gb, 0, none⟩ else some ⟨gb, k1 * 3, none⟩) (nb - k1) (cap - k1)) (nb - k1) ((F.drop (k1 * 3)).map (Value.int .i64))) := fun W hW =>
          ⟨(CatVB.own HK.out.2 (recs_one _)).keep hW.1, (rest_cells2 HRR.out k1 hk1n hkcap).keep hW.1⟩
        have HOT : Hid ((krows F (Ws k) k).map (Value.int .i64) ++ (F.drop (k1 * 3)).map (Value.int .i64) = (others F (Ws k) k).map (Value.int .i64) ∧ kcnt (Ws k) k + (nb - k1) = othN (Ws k) nb k ∧ (others F (Ws k) k).length = othN (Ws k) nb k * 3) := by
          rw [← hk1]; exact ⟨by rw [← List.map_append]; rfl, rfl, others_len HFL.out hlt⟩
        have hszr := HBW.out.size
        clear hM2 hok2 hcon hout2 e0 e1 e2 hb1 hb2 hb3 hb4 hb5 hb6 fc1 fc2 fc3 fc4 hkc
        obtain ⟨kn, hkn⟩ : ∃ kn, kcnt (Ws k) k = kn := ⟨_, rfl⟩
        rw [hkn] at HCK HKN HOT HKL
        have HKE := Lib.hid hkn
        have HK2 : Hid (Recs wr w1.heap.size (.slice ka kn kc) kn (krows F (Ws k) k)) := by have := HK.out; rw [hkn] at this; exact this
        rw [hkn]
        clear hkn hk1 HK hnk
        go_wp2
        obtain ⟨W2, hW2⟩ : ∃ W2, wr.alloc (.cells #[.int .i64 x, .int .i64 y, .int .i64 z] 50) = W2 := ⟨_, rfl⟩
        have hdn : Dn wr W2 := by rw [← hW2]; exact ⟨(Below.refl _ _).alloc (Nat.le_refl _) _, by simp⟩
        have f0 : W2.cell? ⟨wr.heap.size, 0, none⟩ = some (.int .i64 x) := by rw [← hW2]; simp [go_sem]
        have f1 : W2.cell? ⟨wr.heap.size, 1, none⟩ = some (.int .i64 y) := by rw [← hW2]; simp [go_sem]
        have f2 : W2.cell? ⟨wr.heap.size, 2, none⟩ = some (.int .i64 z) := by rw [← hW2]; simp [go_sem]
        have hz2w : W2.heap.size = wr.heap.size + 1 := by rw [← hW2]; simp
        rw [hW2]
        have d0 := (hdn.1.cell (p := ⟨w.heap.size, 0, none⟩) (World.block_lt_of_cell? wr _ c0)).trans c0
        have d1 := (hdn.1.cell (p := ⟨w.heap.size, 1, none⟩) (World.block_lt_of_cell? wr _ c1)).trans c1
        have HF := Lib.hid (And.intro f0 (And.intro f1 f2))
        have hw2 : Dn2 W2 W2 := Below.refl _ _
        have HCK2 : Hid (∀ W, Dn2 W2 W → CatVB W (.slice ka kn kc) kn ((krows F (Ws k) k).map (Value.int .i64)) ∧ CatVB W (.slice (if cap = k1 then some ⟨gb, 0, none⟩ else some ⟨gb, k1 * 3, none⟩) (nb - k1) (cap - k1)) (nb - k1) ((F.drop (k1 * 3)).map (Value.int .i64))) := fun W hW => HCK.out W ⟨hdn.1.trans (hW.mono hdn.1.size), Nat.lt_of_lt_of_le hdn.2 hW.size⟩
        have HDN := Lib.hid hdn
        have HCON : Hid (∀ b W, Dn2 W2 W → b < W.heap.size → W.cell? ⟨b, 0, none⟩ = some (.slice ka kn kc) → W.cell? ⟨b, 1, none⟩ = some (.slice (if cap = k1 then some ⟨gb, 0, none⟩ else some ⟨gb, k1 * 3, none⟩) (nb - k1) (cap - k1)) → Calls Try.prog 71 #[.slice (some ⟨b, 0, none⟩) 2 2] W fun e w' => ∃ va vk, e = .returned (.slice va (othN (Ws k) nb k) vk) ∧ RecE3 w' W2.heap.size (.slice va (othN (Ws k) nb k) vk) (othN (Ws k) nb k) (others F (Ws k) k) ∧ (∀ g, (Value.slice va (othN (Ws k) nb k) vk).ownBlock = some g → W.heap.size ≤ g) ∧ Below W.heap.size W w') := fun b W hW hb h0 h1 =>
          (concatB b kn (nb - k1) _ _ _ _ W hb h0 h1 (HCK2.out W hW).1 (HCK2.out W hW).2 HKN.out HRN.out).mono fun e w' ⟨v, h1, h2, h3⟩ => by
            have h4 : Recs w' W2.heap.size v (othN (Ws k) nb k) (others F (Ws k) k) := Recs.weak (B := W.heap.size) ⟨HOT.out.2.2, by rw [← HOT.out.1, ← HOT.out.2.1]; exact h2⟩ hW.size
            obtain ⟨va, vk, rfl, -, -⟩ := h4.form
            exact ⟨va, vk, h1, h4, fun g hg => (World.ownsRow.lt h2 g hg).1, h3⟩
        clear hW2 c0 c1 x0 x1 x2 f0 f1 f2 hdn HCK hz2w
        obtain ⟨ON, hON⟩ : ∃ ON, othN (Ws k) nb k = ON := ⟨_, rfl⟩
        obtain ⟨ra, hra⟩ : ∃ ra : Option Addr, (if cap = k1 then some ⟨gb, 0, none⟩ else some ⟨gb, k1 * 3, none⟩) = ra := ⟨_, rfl⟩
        rw [hra] at HCON
        have HD2 : Hid (∀ W, Dn2 W2 W → W.cell? ⟨w.heap.size, 0, none⟩ = some (.int .i64 (n : Int)) ∧ W.cell? ⟨w.heap.size, 1, none⟩ = some (.slice (some ⟨gb, 0, none⟩) nb cap)) := fun W hW => ⟨(hW.cell (p := ⟨w.heap.size, 0, none⟩) (World.block_lt_of_cell? W2 _ d0)).trans d0, (hW.cell (p := ⟨w.heap.size, 1, none⟩) (World.block_lt_of_cell? W2 _ d1)).trans d1⟩
        have hwW2 : w.heap.size < W2.heap.size := by have h1 := HDN.out.2; have h2 := World.block_lt_of_cell? W2 _ d0; exact h2
        obtain ⟨OF, hOF⟩ : ∃ ON, others F (Ws k) k = ON := ⟨_, rfl⟩
        rw [hON, hOF] at HCON HM2
        have HKO : Hid (ON = kn + (nb - k1)) := by show _ = _; rw [← hON, HOT.out.2.1]
        clear HOT HCK2 hw2
        have hw2 : Dn2 W2 W2 := Below.refl _ _
        have HONL : Hid (ON ≤ 1000) := by have h1 := HKL.out; have h2 := HKO.out; show _ ≤ _; omega
        clear HKO
        refine meetN ?X (fun g2 va vk W => W.cell? ⟨g2, 0, none⟩ = some (.int .i64 (n : Int)) ∧ W.cell? ⟨g2, 1, none⟩ = some (.slice va ON vk) ∧ Dn2 W2 W ∧ W2.heap.size ≤ g2 ∧ g2 < W.heap.size ∧ RecE3 W W2.heap.size (.slice va ON vk) ON OF) ?h1 ?h2
        case h1 =>
          intro K1
          go_region_held3 (fun W => W.cell? ⟨w.heap.size, 0, none⟩ = some (.int .i64 (n : Int)) ∧ W.cell? ⟨w.heap.size, 1, none⟩ = some (.slice (some ⟨gb, 0, none⟩) nb cap) ∧ Dn2 W2 W) (first | (go_split_ands; (refine ⟨(HD2.out _ ?_).1, (HD2.out _ ?_).2, ?_⟩ <;> ((repeat' (first | (with_reducible assumption) | (with_reducible refine Dn2.dr ?_) | (with_reducible refine Dn2.al ?_ _) | (with_reducible refine Dn2.call ?_ hba) | (with_reducible refine Dn2.set ?_ ?_ _) | ((try have hq0 := sza.out); (try simp at hq0); (try dsimp only); omega))); done)))) (first | (go_at_call 71; (refine Calls.mono (HCON.out _ _ ?_ ?_ ?_ ?_) ?_); (focus ((repeat' (first | (with_reducible assumption) | (with_reducible refine Dn2.dr ?_) | (with_reducible refine Dn2.al ?_ _) | (with_reducible refine Dn2.call ?_ hba) | (with_reducible refine Dn2.set ?_ ?_ _) | ((try have hq0 := sza.out); (try simp at hq0); (try dsimp only); omega))); done)); (focus (first | (simp; done) | (simp; omega))); (focus (first | (simp [go_sem]; done) | ((refine cell_drA ?_); (refine cell_alloc_kept ?_); (simp [go_sem]); done) | ((refine cell_alloc_kept ?_); (simp [go_sem]); done) | ((refine cell_alloc_kept ?_); (refine cell_drA ?_); (simp [go_sem]); done))); (focus (first | (simp [go_sem]; done) | ((refine cell_drA ?_); (refine cell_alloc_kept ?_); (simp [go_sem]); done) | ((refine cell_alloc_kept ?_); (simp [go_sem]); done) | ((refine cell_alloc_kept ?_); (refine cell_drA ?_); (simp [go_sem]); done))); rintro e wa ⟨va, vk, rfl, hoc, hoq, hba⟩; have HOQ := Lib.hid hoq; clear hoq; have sza := Lib.hid hba.size; have HOC := Lib.hid hoc; clear hoc; (try (refine fresh2 (W2.heap.size) (.int .i64 0) (.slice none 0 0) hba ?_ ?_ ?_ ?_ ?_ ?_; (focus (first | (with_reducible assumption) | (simp [go_sem]; done))); (focus (first | (with_reducible assumption) | (simp [go_sem]; done))); (focus (first | (with_reducible assumption) | (simp [go_sem]; done))); (focus (first | (with_reducible assumption) | (simp [go_sem]; done))); (focus (first | (simp; done) | (simp; omega) | omega)); intro ae1 ae2 ae4 ae5 ae7)); (try (refine fresh2 (W2.heap.size + 1) (.int .i64 0) (.slice none 0 0) hba ?_ ?_ ?_ ?_ ?_ ?_; (focus (first | (with_reducible assumption) | (simp [go_sem]; done))); (focus (first | (with_reducible assumption) | (simp [go_sem]; done))); (focus (first | (with_reducible assumption) | (simp [go_sem]; done))); (focus (first | (with_reducible assumption) | (simp [go_sem]; done))); (focus (first | (simp; done) | (simp; omega) | omega)); intro ae1 ae2 ae4 ae5 ae7))))
          · refine gen_endN _ (fun W => W.cell? ⟨wa.heap.size, 0, none⟩ = some (.int .i64 (n : Int)) ∧ W.cell? ⟨wa.heap.size, 1, none⟩ = some (.slice va ON vk) ∧ Dn2 W2 W ∧ W2.heap.size ≤ wa.heap.size ∧ wa.heap.size < W.heap.size ∧ RecE3 W W2.heap.size (.slice va ON vk) ON OF) ?_ ?_
            · go_split_ands
              refine ⟨by (simp [go_sem, *]), by (simp [go_sem, *]), by ((repeat' (first | (with_reducible assumption) | (with_reducible refine Dn2.dr ?_) | (with_reducible refine Dn2.al ?_ _) | (with_reducible refine Dn2.call ?_ hba) | (with_reducible refine Dn2.set ?_ ?_ _) | ((try have hq0 := sza.out); (try simp at hq0); (try dsimp only); omega)))), by ((try have hq0 := sza.out); (try simp at hq0); (try dsimp only); (try simp); (try omega)), by ((try have hq0 := sza.out); (try simp at hq0); (try dsimp only); (try simp); (try omega)), ?_⟩
              exact recs_al HOC.out _
            · intro Wn hW
              have HWN := Lib.hid hW
              clear hW
              generalize wa.heap.size = g2 at HWN ⊢
              have hk9 := fun b34 => K1.out g2 b34 va vk Wn HWN.out
              clear K1 HWN
              revert hk9
              generalize W2.heap.size = b34
              intro hk9
              exact hk9 b34
          · refine gen_endN _ (fun W => W.cell? ⟨(W2.heap.size + 1), 0, none⟩ = some (.int .i64 (n : Int)) ∧ W.cell? ⟨(W2.heap.size + 1), 1, none⟩ = some (.slice va ON vk) ∧ Dn2 W2 W ∧ W2.heap.size ≤ (W2.heap.size + 1) ∧ (W2.heap.size + 1) < W.heap.size ∧ RecE3 W W2.heap.size (.slice va ON vk) ON OF) ?_ ?_
            · go_split_ands
              refine ⟨by (simp [go_sem, *]), by (simp [go_sem, *]), by ((repeat' (first | (with_reducible assumption) | (with_reducible refine Dn2.dr ?_) | (with_reducible refine Dn2.al ?_ _) | (with_reducible refine Dn2.call ?_ hba) | (with_reducible refine Dn2.set ?_ ?_ _) | ((try have hq0 := sza.out); (try simp at hq0); (try dsimp only); omega)))), by ((try have hq0 := sza.out); (try simp at hq0); (try dsimp only); (try simp); (try omega)), by ((try have hq0 := sza.out); (try simp at hq0); (try dsimp only); (try simp); (try omega)), ?_⟩
              exact recs_set (recs_set HOC.out _ _ (fun e => by have h1 := HOQ.out _ e; simp at h1; omega)) _ _ (fun e => by have h1 := HOQ.out _ e; simp at h1; omega)
            · intro Wn hW
              exact K1.out _ _ va vk Wn hW
          · refine gen_endN _ (fun W => W.cell? ⟨W2.heap.size, 0, none⟩ = some (.int .i64 (n : Int)) ∧ W.cell? ⟨W2.heap.size, 1, none⟩ = some (.slice va ON vk) ∧ Dn2 W2 W ∧ W2.heap.size ≤ W2.heap.size ∧ W2.heap.size < W.heap.size ∧ RecE3 W W2.heap.size (.slice va ON vk) ON OF) ?_ ?_
            · go_split_ands
              refine ⟨by (simp [go_sem, *]), by (simp [go_sem, *]), by ((repeat' (first | (with_reducible assumption) | (with_reducible refine Dn2.dr ?_) | (with_reducible refine Dn2.al ?_ _) | (with_reducible refine Dn2.call ?_ hba) | (with_reducible refine Dn2.set ?_ ?_ _) | ((try have hq0 := sza.out); (try simp at hq0); (try dsimp only); omega)))), by ((try have hq0 := sza.out); (try simp at hq0); (try dsimp only); (try simp); (try omega)), by ((try have hq0 := sza.out); (try simp at hq0); (try dsimp only); (try simp); (try omega)), ?_⟩
              exact recs_set (recs_set HOC.out _ _ (fun e => by have h1 := HOQ.out _ e; simp at h1; omega)) _ _ (fun e => by have h1 := HOQ.out _ e; simp at h1; omega)
            · intro Wn hW
              exact K1.out _ _ va vk Wn hW
        case h2 =>
          intro g2 b34 va vk W ⟨k0, k1', hdW, hg2, hg3, hrW⟩
          have HDW := Lib.hid hdW
          have HRW := Lib.hid hrW
          have HFW : Hid (∀ W', Dn2 W W' → W'.cell? ⟨wr.heap.size, 0, none⟩ = some (.int .i64 x) ∧ W'.cell? ⟨wr.heap.size, 1, none⟩ = some (.int .i64 y) ∧ W'.cell? ⟨wr.heap.size, 2, none⟩ = some (.int .i64 z)) := fun W' hW' =>
            have h2 : Dn2 W2 W' := hdW.call hW'
            ⟨(h2.cell (p := ⟨wr.heap.size, 0, none⟩) HDN.out.2).trans HF.out.1, (h2.cell (p := ⟨wr.heap.size, 1, none⟩) HDN.out.2).trans HF.out.2.1, (h2.cell (p := ⟨wr.heap.size, 2, none⟩) HDN.out.2).trans HF.out.2.2⟩
          obtain ⟨t0, t1, t2⟩ := HFW.out W (Below.refl _ _)
          have HIF := Lib.hid (implFol W2.heap.size (n : Int) va ON vk OF x y z M2 W HRW.out (by have := HONL.out; omega) wx wy HM2.out.1)
          have HRW0 : Hid (Below wr.heap.size wr W) := HDN.out.1.trans (hdW.mono HDN.out.1.size)
          clear hdW hrW hg2 d0 d1 hw2 hwW2 hra
          go_wp2_with fail
          refine HIF.out.mono ?_; rintro r W5 ⟨b5, ok3, rfl, hok3⟩
          obtain rfl : ok3 = ok2 := by
            have h1 := HM2.out.2.1
            cases ok3 <;> cases ok2 <;> simp_all
          have HB5 := Lib.hid b5
          have HR5 : Hid (Below wr.heap.size wr W5) := HRW0.out.trans (b5.mono HRW0.out.size)
          have HO5 := Lib.hid (HO.out.keep HR5.out (Nat.le_refl _))
          have HK5 := Lib.hid (HK2.out.keep HR5.out (Nat.le_refl _))
          have HBW5 : Hid (Below w1.heap.size w1 W5) := HBW.out.trans (HR5.out.mono hszr)
          have hz15 := HBW5.out.size
          clear b5 hok3 k0 k1' t0 t1 t2
          have HKN2 : Hid (krows F (Ws (k + 1)) (k + 1) = if ok3 then krows F (Ws k) k else krows F (Ws k) k ++ [x, y, z]) := by
            have h1 := krows_next HS.out hlt
            rw [HM2.out.2.2.1, HXYZ.out.1, HXYZ.out.2.1, HXYZ.out.2.2] at h1
            exact h1
          have HKC : Hid (kcnt (Ws (k + 1)) (k + 1) = if ok3 then kn else kn + 1) := by
            have h1 := krows_len F (Ws (k + 1)) (k + 1)
            have h2 := krows_len F (Ws k) k
            rw [HKN2.out] at h1
            rw [HKE.out] at h2
            show _ = _
            cases ok3 with
            | true => simp only [if_true] at h1 ⊢; omega
            | false => simp only [Bool.false_eq_true, if_false, List.length_append] at h1 ⊢; simp at h1; omega
          have HOU : Hid (outs (k + 1) = if ok3 then outs k else outs k ++ [(k : Int)]) := HM2.out.2.2.2
          cases ok3 with
          | true =>
            go_wp2
            go_roundw
            case rel =>
              obtain rfl : k + 1 = k1 := HK1.out
              refine ⟨k + 1, by omega, by go_num, ?_, ?_, HBW5⟩
              · rw [HOU.out]; exact HO5
              · rw [HKC.out, HKN2.out]; exact HK5
            case measure =>
              obtain rfl : k + 1 = k1 := HK1.out
              simp [intOf]; omega
          | false =>
            have hrow5 := HO5.out
            obtain ⟨ao, co, hov, -, -⟩ := hrow5.form
            obtain ⟨Ok, hOk⟩ : ∃ Ok, outs k = Ok := ⟨_, rfl⟩
            rw [hOk] at HO5 HOL HOU hrow5 hov HO
            subst hov
            have hOl : Ok.length ≤ 24 := HOL.out
            have hKl : kn ≤ 24 := HKL.out
            clear hOk
            go_wp2_with (at_builtin; refine wpList_append_own _ rfl _ _ 39 rfl w1.heap.size 2 i0 (.int .i64 0) 1 8 Try.underlying39 hi hz0 hz1 hz2 rfl (by decide) _ _ _ rfl (HO5.out.alloc _) ⟨W5.heap.size, 0, none⟩ 1 1 [.int .i64 (k : Int)] rfl rfl ?c1 ?c2 ?c3 ?c4 ?c5 ?_)
            case c1 => exact cell_one_new _ _ _
            case c2 => simp [Value.oneCell']
            case c3 => unfold maxLen; omega
            case c4 => omega
            case c5 => first | omega | (simp; omega)
            intro v7 w7 hown7 hgrow7 _
            have HO7 : Hid (Ints w7 w1.heap.size v7 (Ok ++ [(k : Int)])) := ints_snocN hown7
            have HB7 := Lib.hid (ints_belowN HBW5.out (Nat.le_refl _) HO5.out _ hgrow7)
            have HK7 : Hid (Recs w7 w1.heap.size (.slice ka kn kc) kn (krows F (Ws k) k)) := ⟨HK5.out.1, World.ownsRow.kept (World.ownsRow.alloc HK5.out.2 _) hgrow7 (rows_other HK5.out.2 HO5.out (by decide))⟩
            have hne7 : some wr.heap.size ≠ (Value.slice ao Ok.length co).ownBlock := fun e => by
              have := (HO.out.lt wr.heap.size e.symm).2
              omega
            obtain ⟨s0, s1, s2⟩ := HFW.out W5 HB5.out
            have u0 : w7.cell? ⟨wr.heap.size, 0, none⟩ = some (.int .i64 x) := hgrow7.cell (cell_alloc_kept s0) hne7
            have u1 : w7.cell? ⟨wr.heap.size, 1, none⟩ = some (.int .i64 y) := hgrow7.cell (cell_alloc_kept s1) hne7
            have u2 : w7.cell? ⟨wr.heap.size, 2, none⟩ = some (.int .i64 z) := hgrow7.cell (cell_alloc_kept s2) hne7
            have hz17 := HB7.out.size
            clear hown7 hgrow7 hne7 s0 s1 s2 hrow5
            go_wp2_with (at_builtin; refine wpList_append_own _ rfl _ _ 30 rfl w1.heap.size 50 i1 (.agg #[.int .i64 0, .int .i64 0, .int .i64 0]) 3 24 Try.underlying30 ji jz0 jz1 jz2 rfl (by decide) _ _ _ rfl (World.ownsRow.alloc HK7.out.2 _) ⟨w7.heap.size, 0, none⟩ 1 1 [.int .i64 x, .int .i64 y, .int .i64 z] rfl rfl ?d1 ?d2 ?d3 ?d4 ?d5 ?_)
            case d1 => exact cell_three_newB _ _ _ _ _
            case d2 => simp [Value.oneCell']
            case d3 => unfold maxLen; omega
            case d4 => omega
            case d5 => first | omega | (simp; omega)
            intro v8 w8 hown8 hgrow8 _
            have HO8 : Hid (Ints w8 w1.heap.size v7 (Ok ++ [(k : Int)])) := World.ownsRow.kept (World.ownsRow.alloc HO7.out _) hgrow8 (rows_other HO7.out HK7.out.2 (by decide))
            have HK8 : Hid (Recs w8 w1.heap.size v8 (kn + 1) (krows F (Ws k) k ++ [x, y, z])) := ⟨by rw [List.length_append, HK7.out.1]; simp; omega, by rw [List.map_append]; exact hown8⟩
            have HB8 : Hid (Below w1.heap.size w1 w8) := (HB7.out.alloc hz17 _).grown hgrow8 (by simp; omega) (fun j e => (World.ownsRow.lt HK7.out.2 j e).1)
            clear hown8 hgrow8 u0 u1 u2
            go_wp2
            go_roundw
            case rel =>
              obtain rfl : k + 1 = k1 := HK1.out
              refine ⟨k + 1, by omega, by go_num, ?_, ?_, HB8⟩
              · rw [HOU.out]; exact HO8
              · rw [HKC.out, HKN2.out]; exact HK8
            case measure =>
              obtain rfl : k + 1 = k1 := HK1.out
              simp [intOf]; omega
      · obtain rfl : k = nb := by omega
        have hltz : ¬ (k : Int) < (k : Int) := by omega
        have hszw := HBR.out.size
        have hz01 : w.heap.size ≤ w1.heap.size := Nat.le_of_lt hz1w
        go_wp2
        go_ret2
        exact ⟨HBR.out, _, rfl, HO.out.lowN hz01⟩
  · obtain rfl := nd_no HC.out hneg
    have HLL : Hid (l = []) := HC.out.no rfl
    have HB1 := Lib.hid (HB0.out.trans (b1.mono HB0.out.size))
    clear b1 hneg hw0
    go_wp2
    go_ret2
    exact ⟨HB1.out, _, rfl, by rw [HLL.out]; exact Ints.nil _ _⟩
end Go.Proofs.Ytlpdiodkolcfcab
