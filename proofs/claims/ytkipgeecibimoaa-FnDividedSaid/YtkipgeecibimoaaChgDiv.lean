/- A divided wave, on the side of the program. -/
import Derived.Test.YtkipgeecibimoaaChgTog
import Derived.Test.YtkipgeecibimoaaEdgeTold
import Derived.Test.YtkipgeecibimoaaWaveStr
import Derived.Test.YtkipgeecibimoaaIn64
import Derived.Test.YtkipgeecibimoaaShelf
import Derived.Stop.RegionWithIn
import Derived.RangeFuncCalls
import Derived.Deep.RegionWith
namespace Go.Proofs.Ytkipgeecibimoaa
open Go.RowKit
set_option linter.unusedVariables false

attribute [local go_sem] Oper.semAt_some

abbrev TDV : Nat := 84
/-- one edge: at an edge up the counter counts, and the level is that of the phase -/
def divT (m gh : Nat) (c : UInt8) (e : Int) (p : Nat) : UInt8 × Nat :=
  if e = 48 then (c, p) else (if (if p + 1 < m then p + 1 else 0) < gh then 49 else 48, if p + 1 < m then p + 1 else 0)
theorem divT_down (m gh : Nat) (c : UInt8) (p : Nat) : divT m gh c 48 p = (c, p) := by unfold divT; rw [if_pos rfl]
theorem divT_up (m gh : Nat) (c : UInt8) (e : Int) (p q : Nat) (he : e ≠ 48) (hq : (if p + 1 < m then p + 1 else 0) = q) : divT m gh c e p = (if q < gh then 49 else 48, q) := by unfold divT; rw [if_neg he, hq]

set_option maxRecDepth 100000 in
theorem divStep (W : World) (E D m gh p : Nat) (c : UInt8) (ed : Int) (hDE : D ≠ E) (hE : W.heap[E]? = some (.cells #[.int .i64 1, .int .i64 (m : Int), .int .i64 (p : Int)] TAC (0, 0))) (hD : W.heap[D]? = some (.cells #[.int .i64 (m : Int), .int .i64 (gh : Int)] TDV (0, 0))) (hp : p < m) (hm : m ≤ 64) :
    Calls Try.prog 121 #[.int .i32 (c.toNat : Int), .int .i32 ed, .pointer (some ⟨E, 0, none⟩), .pointer (some ⟨D, 0, none⟩)] W fun r W' => r = .returned (.int .i32 (((divT m gh c ed p).1.toNat : Nat) : Int)) ∧ Moved W.heap.size E W W' ∧ W'.heap[E]? = some (.cells #[.int .i64 1, .int .i64 (m : Int), .int .i64 (((divT m gh c ed p).2 : Nat) : Int)] TAC (0, 0)) := by
  have mv : ∀ (V : World) (v : Value), Moved W.heap.size E W V → Moved W.heap.size E W (V.setCell ⟨E, 2, none⟩ v) := fun V v h =>
    ⟨h.os, h.tape, h.output, by have := h.size; simpa [World.setCell] using this, fun k hk hn => (Below.heap_setCell _ _ _ _ hn).trans (h.block k hk hn)⟩
  have hDl : D < W.heap.size := (Array.getElem?_eq_some_iff.1 hD).1
  by_cases he : ed = 48
  · subst he
    rw [divT_down]
    go_enter Try.func121, Try.ntmps121
    go_wp2
    go_ret
    exact ⟨rfl, Moved.refl _ _ _, hE⟩
  · have heb : (ed == 48) = false := by simp [he]
    have fin : ∀ (V : World) (q : Nat), Moved W.heap.size E W V → V.heap[E]? = some (.cells #[.int .i64 1, .int .i64 (m : Int), .int .i64 (q : Int)] TAC (0, 0)) → V.cell? ⟨E, 2, none⟩ = some (.int .i64 (q : Int)) ∧ V.cell? ⟨D, 1, none⟩ = some (.int .i64 (gh : Int)) := fun V q h1 h2 =>
      ⟨by rw [Lib.cell_of_heap h2]; rfl, by rw [Lib.cell_of_heap ((h1.block D hDl hDE).trans hD)]; rfl⟩
    by_cases hlt : p + 1 < m
    · obtain ⟨r, hr⟩ : ∃ r : Nat, r = p + 1 := ⟨_, rfl⟩
      have hT := divT_up m gh c ed p r he (by rw [if_pos hlt]; omega)
      rw [hT]
      have hC := count_f E 1 m p W hE (by omega) (by omega) (by omega) (by omega) (by omega) (by omega) (by omega)
      have hM := mv W (.int .i64 ((p : Int) + 1)) (Moved.refl _ _ _)
      have hX := box_set hE (.int .i64 ((p : Int) + 1))
      rw [show (p : Int) + 1 = (r : Int) by omega] at hC hM hX
      generalize hV0 : (World.setCell _ _ _ : World) = V0 at hC hM hX
      clear hV0
      obtain ⟨f1, f2⟩ := fin _ r hM hX
      have HC := Lib.hid hC
      have HM := Lib.hid hM
      have HX := Lib.hid hX
      clear hE hT mv hM hX fin he hC
      by_cases hgh : r < gh
      · have hb : decide ((r : Int) < (gh : Int)) = true := by simp; omega
        rw [if_pos hgh]
        go_enter Try.func121, Try.ntmps121
        go_wp2_with fail
        refine HC.out.mono ?_; rintro e V ⟨rfl, q, rfl⟩
        have g1 : (V0.drewN q).cell? ⟨E, 2, none⟩ = _ := f1
        have g2 : (V0.drewN q).cell? ⟨D, 1, none⟩ = _ := f2
        go_wp2_with fail
        refine (levelOf_any _ _).mono ?_; rintro e w' ⟨rfl, rfl⟩
        go_wp2
        go_ret
        exact ⟨by simp <;> omega, ⟨HM.out.os, HM.out.tape, HM.out.output, HM.out.size, HM.out.block⟩, by have h := HX.out; rw [hr] at h; show V0.heap[E]? = _; simpa using h⟩
      · have hb : decide ((r : Int) < (gh : Int)) = false := by simp; omega
        rw [if_neg hgh]
        go_enter Try.func121, Try.ntmps121
        go_wp2_with fail
        refine HC.out.mono ?_; rintro e V ⟨rfl, q, rfl⟩
        have g1 : (V0.drewN q).cell? ⟨E, 2, none⟩ = _ := f1
        have g2 : (V0.drewN q).cell? ⟨D, 1, none⟩ = _ := f2
        go_wp2_with fail
        refine (levelOf_any _ _).mono ?_; rintro e w' ⟨rfl, rfl⟩
        go_wp2
        go_ret
        exact ⟨by simp <;> omega, ⟨HM.out.os, HM.out.tape, HM.out.output, HM.out.size, HM.out.block⟩, by have h := HX.out; rw [hr] at h; show V0.heap[E]? = _; simpa using h⟩
    · obtain ⟨r, hr⟩ : ∃ r : Nat, r = 0 := ⟨_, rfl⟩
      have hT := divT_up m gh c ed p r he (by rw [if_neg hlt]; omega)
      rw [hT]
      have hC := count_t E 1 m p W hE (by omega) (by omega) (by omega) (by omega) (by omega) (by omega) (by omega)
      have hM := mv _ (.int .i64 ((p : Int) + 1 - (m : Int))) (mv W (.int .i64 ((p : Int) + 1)) (Moved.refl _ _ _))
      have hX := box_set (box_set hE (.int .i64 ((p : Int) + 1))) (.int .i64 ((p : Int) + 1 - (m : Int)))
      rw [show (p : Int) + 1 - (m : Int) = (r : Int) by omega] at hC hM hX
      generalize hV0 : (World.setCell _ _ _ : World) = V0 at hC hM hX
      clear hV0
      obtain ⟨f1, f2⟩ := fin _ r hM hX
      have HC := Lib.hid hC
      have HM := Lib.hid hM
      have HX := Lib.hid hX
      clear hE hT mv hM hX fin he hC
      by_cases hgh : r < gh
      · have hb : decide ((r : Int) < (gh : Int)) = true := by simp; omega
        rw [if_pos hgh]
        go_enter Try.func121, Try.ntmps121
        go_wp2_with fail
        refine HC.out.mono ?_; rintro e V ⟨rfl, q, rfl⟩
        have g1 : (V0.drewN q).cell? ⟨E, 2, none⟩ = _ := f1
        have g2 : (V0.drewN q).cell? ⟨D, 1, none⟩ = _ := f2
        go_wp2_with fail
        refine (levelOf_any _ _).mono ?_; rintro e w' ⟨rfl, rfl⟩
        go_wp2
        go_ret
        exact ⟨by simp <;> omega, ⟨HM.out.os, HM.out.tape, HM.out.output, HM.out.size, HM.out.block⟩, by have h := HX.out; rw [hr] at h; show V0.heap[E]? = _; simpa using h⟩
      · have hb : decide ((r : Int) < (gh : Int)) = false := by simp; omega
        rw [if_neg hgh]
        go_enter Try.func121, Try.ntmps121
        go_wp2_with fail
        refine HC.out.mono ?_; rintro e V ⟨rfl, q, rfl⟩
        have g1 : (V0.drewN q).cell? ⟨E, 2, none⟩ = _ := f1
        have g2 : (V0.drewN q).cell? ⟨D, 1, none⟩ = _ := f2
        go_wp2_with fail
        refine (levelOf_any _ _).mono ?_; rintro e w' ⟨rfl, rfl⟩
        go_wp2
        go_ret
        exact ⟨by simp <;> omega, ⟨HM.out.os, HM.out.tape, HM.out.output, HM.out.size, HM.out.block⟩, by have h := HX.out; rw [hr] at h; show V0.heap[E]? = _; simpa using h⟩

theorem divT_ok (m gh : Nat) (hm : 0 < m) (c : UInt8) (e : Int) (p : Nat) (hc : c = 48 ∨ c = 49) (hp : p < m) : ((divT m gh c e p).1 = 48 ∨ (divT m gh c e p).1 = 49) ∧ (divT m gh c e p).2 < m := by
  unfold divT
  split
  · exact ⟨hc, hp⟩
  · refine ⟨?_, ?_⟩
    · dsimp only
      split
      · split
        · exact .inr rfl
        · exact .inl rfl
      · split
        · exact .inr rfl
        · exact .inl rfl
    · dsimp only
      split <;> omega
theorem chDiv_ok (m gh : Nat) (cs : List (Int × Int)) : ∀ st : List UInt8 × UInt8 × Nat, (st.2.1 = 48 ∨ st.2.1 = 49) → st.2.2 < m → ((cs.foldl (chF (divT m gh)) st).2.1 = 48 ∨ (cs.foldl (chF (divT m gh)) st).2.1 = 49) ∧ (cs.foldl (chF (divT m gh)) st).2.2 < m := by
  induction cs with
  | nil => intro st h1 h2; exact ⟨h1, h2⟩
  | cons x cs ih =>
    intro st h1 h2
    have h := divT_ok m gh (by omega) st.2.1 x.2 st.2.2 h1 h2
    exact ih _ h.1 h.2
set_option maxRecDepth 100000 in
set_option maxHeartbeats 4000000 in
theorem changedDiv_in (n : Nat) (hn : 3 ≤ n) (E D m gh p0 : Nat) (s : ByteArray) (w : World) (hs : s.size ≤ 400) (hall : s.data.toList.all lvlB = true) (hm : m ≤ 64) (hp0 : p0 < m)
    (hE : w.heap[E]? = some (.cells #[.int .i64 1, .int .i64 (m : Int), .int .i64 (p0 : Int)] TAC (0, 0))) (hDE : D ≠ E) (hD : w.heap[D]? = some (.cells #[.int .i64 (m : Int), .int .i64 (gh : Int)] TDV (0, 0))) :
    CallsIn Fence.wide n Try.prog 120 #[.string s, .func (.func 121) #[] #[.pointer (some ⟨E, 0, none⟩), .pointer (some ⟨D, 0, none⟩)]] w fun e W' => e = .returned (.string ⟨(chT (divT m gh) p0 s.data.toList s.size).toArray⟩) ∧ Moved w.heap.size E w W' := by
  have h1 : 1 ≤ n := by omega
  have hEl : E < w.heap.size := (Array.getElem?_eq_some_iff.1 hE).1
  have HALL := Lib.hid hall
  have hDl : D < w.heap.size := (Array.getElem?_eq_some_iff.1 hD).1
  have HD := Lib.hid hD
  clear hD
  clear hall
  refine callsIn_of_wp_marks Try.func120 rfl trivial ?_ rfl
  simp only [Try.ntmps120, List.size_toArray, List.length_cons, List.length_nil, Nat.reduceAdd, Nat.reduceSub, Array.replicate_succ, Array.replicate_zero, List.push_toArray, List.append_toArray, List.nil_append, List.cons_append]
  gi_wp2_with fail
  refine ⟨trivial, ?_⟩
  refine (edgesOf_told (n - 1) s _).mono ?_
  rintro e w2 ⟨rfl, rfl⟩
  gi_wp2_with fail
  obtain ⟨W1, hW1⟩ : ∃ W1, ((((w.alloc (.cells #[.func (.func 121) #[] #[.pointer (some ⟨E, 0, none⟩), .pointer (some ⟨D, 0, none⟩)]] TFN)).alloc (.cells #[.pointer none, .slice none 0 0] TB)).alloc (.cells #[.int .i32 48] T32)).alloc (.cells #[.string s] 9)) = W1 := ⟨_, rfl⟩
  have hW1s : W1.heap.size = w.heap.size + 1 + 1 + 1 + 1 := by rw [← hW1]; simp
  have hN : W1.cell? ⟨w.heap.size + 1 + 1 + 1, 0, none⟩ = some (.string s) := by
    have h := World.alloc_heap_new (((w.alloc (.cells #[.func (.func 121) #[] #[.pointer (some ⟨E, 0, none⟩), .pointer (some ⟨D, 0, none⟩)]] TFN)).alloc (.cells #[.pointer none, .slice none 0 0] TB)).alloc (.cells #[.int .i32 48] T32)) (.cells #[.string s] 9)
    rw [World.size_alloc, World.size_alloc, World.size_alloc, hW1] at h
    rw [Lib.cell_of_heap h]; rfl
  have h0 : ChgInv w E m (.func (.func 121) #[] #[.pointer (some ⟨E, 0, none⟩), .pointer (some ⟨D, 0, none⟩)]) (chL (divT m gh) p0 []) W1 := by
    have g : ∀ (V : World) (k : Nat) (o o' : Obj), V.heap[k]? = some o → (V.alloc o').heap[k]? = some o := fun V k o o' hk => (Below.heap_alloc V o' k (Array.getElem?_eq_some_iff.1 hk).1).trans hk
    have hBl : Below w.heap.size w W1 := by
      rw [← hW1]; exact ((((Below.refl _ w).alloc (Nat.le_refl _) _).alloc (by simp) _).alloc (by simp; omega) _).alloc (by simp; omega) _
    refine ⟨Moved.of hBl, ?_, ?_, ?_, ?_⟩
    · rw [← hW1]; exact g _ _ _ _ (g _ _ _ _ (g _ _ _ _ (g _ _ _ _ hE)))
    · rw [← hW1]; exact g _ _ _ _ (g _ _ _ _ (g _ _ _ _ (World.alloc_heap_new w _)))
    · have hf := Lib.IsBuilderF.of (Lib.fresh_isBuilder TB TU (w.alloc (.cells #[.func (.func 121) #[] #[.pointer (some ⟨E, 0, none⟩), .pointer (some ⟨D, 0, none⟩)]] TFN)))
      rw [World.size_alloc] at hf
      rw [← hW1]
      exact builder_keep hf (fun k o hk _ => g _ _ _ _ (g _ _ _ _ hk))
    · rw [← hW1]
      refine g _ _ _ _ ?_
      have h := World.alloc_heap_new ((w.alloc (.cells #[.func (.func 121) #[] #[.pointer (some ⟨E, 0, none⟩), .pointer (some ⟨D, 0, none⟩)]] TFN)).alloc (.cells #[.pointer none, .slice none 0 0] TB)) (.cells #[.int .i32 48] T32)
      rw [World.size_alloc, World.size_alloc] at h
      exact h
  rw [hW1]
  clear hW1
  refine loop_told rfl h1 (gf := 186) (lb := #[.pointer (some ⟨w.heap.size + 1 + 1 + 1, 0, none⟩)]) rfl trivial (enters_of Try.func186 (by kernel_rfl) rfl) (chgsL s.data.toList s.size)
    (edges_told (n - 1) (by omega) (w.heap.size + 1 + 1 + 1) s HALL.out _ (by omega) hN) (fun _ => rfl)
    (fun pre W => ChgInv w E m (.func (.func 121) #[] #[.pointer (some ⟨E, 0, none⟩), .pointer (some ⟨D, 0, none⟩)]) (chL (divT m gh) p0 pre) W)
    (fun pre A B row hA hg hr => hA.grown hg (fun r e => by obtain ⟨hB, ho⟩ := hr r e; exact ⟨by omega, ho⟩))
    h0
    (fun x => { tmps := #[.string s, .func (.func 121) #[] #[.pointer (some ⟨E, 0, none⟩), .pointer (some ⟨D, 0, none⟩)], undef, .pointer (some ⟨w.heap.size, 0, none⟩), .string ⟨#[]⟩, .pointer (some ⟨w.heap.size + 1, 0, none⟩), .pointer (some ⟨w.heap.size + 1 + 1, 0, none⟩), .int .i64 x.1, .int .i32 x.2, .string s, .func (.func 186) #[] #[.pointer (some ⟨w.heap.size + 1 + 1 + 1, 0, none⟩)], .int .i64 x.1, .int .i32 x.2, undef, undef, undef, undef, undef, undef, undef, undef, undef, undef, undef, undef, undef, undef, undef, undef, undef, undef, undef, undef], defers := [] }) ?assign ?body ?done
  case assign =>
    intro l x W K hK
    gi_wp2
    exact hK
  case body =>
    intro l pre x post W hpx hI
    obtain ⟨k, hk, rfl, rfl, hne⟩ := chgsL_split _ _ _ _ _ hpx
    clear hpx
    have hok := chDiv_ok m gh (chgsL s.data.toList k) ([], 48, p0) (.inl rfl) hp0
    have htx := (chL_text (divT m gh) p0 s.data.toList k).1
    have hnx := chL_snoc (divT m gh) p0 (chgsL s.data.toList k) ((k : Int), lvL s.data.toList k)
    obtain ⟨T, c, p, hst⟩ : ∃ T c p, chL (divT m gh) p0 (chgsL s.data.toList k) = (T, c, p) := ⟨_, _, _, rfl⟩
    rw [show (chgsL s.data.toList k).foldl (chF (divT m gh)) ([], 48, p0) = (T, c, p) from hst] at hok
    rw [hst] at hI htx hnx
    obtain ⟨hcl, hpm⟩ := hok
    dsimp only at hcl hpm htx
    have HNX := Lib.hid hnx
    clear hnx hst hne
    generalize lvL s.data.toList k = ed at *
    have hIw := hI.lt
    have hsub : IntKind.i64.wrap ((k : Int) - ((Lib.byteCells T).length : Int)) = ((k - T.length : Nat) : Int) := by rw [Lib.byteCells_length]; rw [IntWalk.i64_in _ (by omega)]; omega
    have hc6 : W.cell? ⟨w.heap.size + 1 + 1, 0, none⟩ = some (.int .i32 (c.toNat : Int)) := by rw [Lib.cell_of_heap hI.lev]; rfl
    have hI' := Lib.hid (hI.drew 1)
    have hkk : k ≤ 400 := by omega
    clear hI
    have hnb : T.length ≤ 400 := by omega
    have hlen6 : ∀ x : Unit, (Lib.byteCells T).length + (⟨Array.replicate (k - T.length) c⟩ : ByteArray).size ≤ 140737488355328 := fun _ => by
      have : (⟨Array.replicate (k - T.length) c⟩ : ByteArray).size = k - T.length := by show (Array.replicate (k - T.length) c).size = _; simp
      rw [Lib.byteCells_length]; omega
    have hwr : ∀ W2 : World, Below W.drew.heap.size W.drew W2 → Calls Try.prog 126 #[.pointer (some ⟨w.heap.size + 1, 0, none⟩), .string ⟨Array.replicate (k - T.length) c⟩] W2 fun e w' => e = .returned (.tuple #[.int .i64 ((⟨Array.replicate (k - T.length) c⟩ : ByteArray).size : Int), .nilIface]) ∧ Lib.BuilderAtF TB TU (w.heap.size + 1) (w.heap.size + 1) (.pointer (some ⟨w.heap.size + 1, 0, none⟩)) (Lib.byteCells T ++ Lib.strCells ⟨Array.replicate (k - T.length) c⟩) w' ∧ Below (w.heap.size + 1) W2 w' ∧ Lib.OthersKept TU (some (w.heap.size + 1)) W2 w' := by
      intro W2 hb2
      have hbl := (hI'.out.more (W' := W2) ⟨hb2.os, hb2.tape, hb2.output, hb2.size, hb2.block⟩).bld
      have h4 : W.heap.size ≤ W2.heap.size := hb2.size
      exact writeString_any _ _ _ _ _ hbl (hlen6 ()) (by omega)
    gi_wp2_with fail
    rename_i Q6 K6 h6
    have hrest : ∀ (v : Value) (W3 : World), ChgInv w E m (.func (.func 121) #[] #[.pointer (some ⟨E, 0, none⟩), .pointer (some ⟨D, 0, none⟩)]) (T ++ List.replicate (k - T.length) c, c, p) W3 → KeepsOthers W W3 → K6 { tmps := #[.string s, .func (.func 121) #[] #[.pointer (some ⟨E, 0, none⟩), .pointer (some ⟨D, 0, none⟩)], undef, .pointer (some ⟨w.heap.size, 0, none⟩), .string ⟨#[]⟩, .pointer (some ⟨w.heap.size + 1, 0, none⟩), .pointer (some ⟨w.heap.size + 1 + 1, 0, none⟩), .int .i64 (k : Int), .int .i32 ed, .string s, .func (.func 186) #[] #[.pointer (some ⟨w.heap.size + 1 + 1 + 1, 0, none⟩)], .int .i64 (k : Int), .int .i32 ed, .int .i32 (c.toNat : Int), .string (Utf8.encode (c.toNat : Int)), .int .i64 (k : Int), .int .i64 ((Lib.byteCells T).length : Int), .int .i64 ((k - T.length : Nat) : Int), .string ⟨Array.replicate (k - T.length) c⟩, v, undef, undef, undef, undef, undef, undef, undef, undef, undef, undef, undef, undef, undef], defers := [] } W3 := by
      intro v W3 hI3 hK3
      have HI3 := Lib.hid hI3
      have HK3 := Lib.hid hK3
      clear hI3 hK3
      have box3 : W3.cell? ⟨w.heap.size, 0, none⟩ = some (.func (.func 121) #[] #[.pointer (some ⟨E, 0, none⟩), .pointer (some ⟨D, 0, none⟩)]) := by rw [Lib.cell_of_heap HI3.out.box]; rfl
      have lev3 : W3.cell? ⟨w.heap.size + 1 + 1, 0, none⟩ = some (.int .i32 (c.toNat : Int)) := by rw [Lib.cell_of_heap HI3.out.lev]; rfl
      gi_wp2_with fail
      refine ⟨trivial, fun h => absurd h (by decide), ?_⟩
      refine (CallsIn.inRound l (callsIn_wide.2 (divStep W3 E D m gh p c ed hDE HI3.out.eph ((HI3.out.mv.block D hDl hDE).trans HD.out) hpm hm))).mono ?_
      rintro e W4 ⟨rfl, hm4, hp4⟩
      have HI4 := Lib.hid (HI3.out.counted hEl hm4 hp4)
      have HK4 := Lib.hid (HK3.out.trans (keeps_moved hm4 HI3.out.eph))
      clear hm4 hp4 HI3 HK3 box3 lev3
      have lev4 : W4.cell? ⟨w.heap.size + 1 + 1, 0, none⟩ = some (.int .i32 (c.toNat : Int)) := by rw [Lib.cell_of_heap HI4.out.lev]; rfl
      have lev5 : W4.frozen? ⟨w.heap.size + 1 + 1, 0, none⟩ = false := Lib.frozen_of_heap HI4.out.lev 0
      gi_wp2
      have HK5 := HK4.out.trans (KeepsOthers.setCell W4 ⟨w.heap.size + 1 + 1, 0, none⟩ (.int .i32 (((divT m gh c ed p).1.toNat : Nat) : Int)))
      refine ⟨HK5.from _, HK5.walks, ?_⟩
      dsimp only
      rw [HNX.out]
      exact HI4.out.leveled hEl (divT m gh c ed p).1
    gi_region_with (refine ⟨trivial, fun h => absurd h (by decide), ?_⟩; first
        | (gi_at_call 174; refine (CallsIn.inRound l (callsIn_wide.2 (builderLen_any _ _ _ _ hI'.out.bld))).mono ?_; rintro e w' ⟨rfl, rfl⟩)
        | (gi_at_call 127; refine (CallsIn.inRound l (callsIn_wide.2 (rep_any c (k - T.length) _ hcl (by omega)))).mono ?_; rintro e W2 ⟨rfl, hb2⟩)
        | (gi_at_call 126; refine (CallsIn.inRound l (callsIn_wide.2 (hwr W2 hb2))).mono ?_; rintro e W3 ⟨rfl, hB3, hb3, hO3⟩))
    all_goals
      have hb2' : Below W.heap.size W W2 := ⟨hb2.os, hb2.tape, hb2.output, hb2.size, hb2.block⟩
      exact hrest _ W3 (ChgInv.wrote (bs := T ++ List.replicate (k - T.length) c) (hI'.out.more hb2) hEl hb3 hO3 (by rw [Lib.byteCells_append]; simpa [Lib.strCells, Lib.byteCells] using hB3)) ((keeps_below hb2').trans (keeps_wrote hb3 (hI'.out.more hb2).bld hO3))
  case done =>
    intro D W hD hI hKD
    have hok := chDiv_ok m gh (chgsL s.data.toList s.size) ([], 48, p0) (.inl rfl) hp0
    obtain ⟨htx, htt, -⟩ := chL_text (divT m gh) p0 s.data.toList s.size
    obtain ⟨T, c, p, hst⟩ : ∃ T c p, chL (divT m gh) p0 (chgsL s.data.toList s.size) = (T, c, p) := ⟨_, _, _, rfl⟩
    rw [show (chgsL s.data.toList s.size).foldl (chF (divT m gh)) ([], 48, p0) = (T, c, p) from hst] at hok
    rw [hst] at hI htx htt
    obtain ⟨hcl, hpm⟩ := hok
    dsimp only at hcl hpm htx htt
    have HTT := Lib.hid htt
    clear htt hst
    have hIw := hI.lt
    have hsub : IntKind.i64.wrap ((s.size : Int) - ((Lib.byteCells T).length : Int)) = ((s.size - T.length : Nat) : Int) := by rw [Lib.byteCells_length]; rw [IntWalk.i64_in _ (by omega)]; omega
    have hc6 : W.cell? ⟨w.heap.size + 1 + 1, 0, none⟩ = some (.int .i32 (c.toNat : Int)) := by rw [Lib.cell_of_heap hI.lev]; rfl
    have hI' := Lib.hid (hI.drew 1)
    have HKD := Lib.hid hKD
    have hnb : T.length ≤ 400 := by omega
    have hlen8 : ∀ x : Unit, (Lib.byteCells T).length + (⟨Array.replicate (s.size - T.length) c⟩ : ByteArray).size ≤ 140737488355328 := fun _ => by
      have : (⟨Array.replicate (s.size - T.length) c⟩ : ByteArray).size = s.size - T.length := by show (Array.replicate (s.size - T.length) c).size = _; simp
      rw [Lib.byteCells_length]; omega
    clear hI hKD
    have hwr : ∀ W2 : World, Below W.drew.heap.size W.drew W2 → Calls Try.prog 126 #[.pointer (some ⟨w.heap.size + 1, 0, none⟩), .string ⟨Array.replicate (s.size - T.length) c⟩] W2 fun e w' => e = .returned (.tuple #[.int .i64 ((⟨Array.replicate (s.size - T.length) c⟩ : ByteArray).size : Int), .nilIface]) ∧ Lib.BuilderAtF TB TU (w.heap.size + 1) (w.heap.size + 1) (.pointer (some ⟨w.heap.size + 1, 0, none⟩)) (Lib.byteCells T ++ Lib.strCells ⟨Array.replicate (s.size - T.length) c⟩) w' ∧ Below (w.heap.size + 1) W2 w' ∧ Lib.OthersKept TU (some (w.heap.size + 1)) W2 w' := by
      intro W2 hb2
      have hbl := (hI'.out.more (W' := W2) ⟨hb2.os, hb2.tape, hb2.output, hb2.size, hb2.block⟩).bld
      have h4 : W.heap.size ≤ W2.heap.size := hb2.size
      exact writeString_any _ _ _ _ _ hbl (hlen8 ()) (by omega)
    gi_wp2_with fail
    rename_i Q8 K8 h8
    refine wpIn_mono (Q := fun e a' w' => match e with | .normal => K8 a' w' | _ => False) ?_ (fun e a' w' h => by cases e <;> first | exact h | exact h.elim)
    gi_region_with (refine ⟨trivial, ?_⟩; first
        | (gi_at_call 174; refine (callsIn_wide.2 (builderLen_any _ _ _ _ hI'.out.bld)).mono ?_; rintro e w' ⟨rfl, rfl⟩)
        | (gi_at_call 127; refine (callsIn_wide.2 (rep_any c (s.size - T.length) _ hcl (by omega))).mono ?_; rintro e W2 ⟨rfl, hb2⟩)
        | (gi_at_call 126; refine (callsIn_wide.2 (hwr W2 hb2)).mono ?_; rintro e W3 ⟨rfl, hB3, hb3, hO3⟩))
    all_goals
      have hb2' : Below W.heap.size W W2 := ⟨hb2.os, hb2.tape, hb2.output, hb2.size, hb2.block⟩
      have HI3 := Lib.hid (ChgInv.wrote (bs := T ++ List.replicate (s.size - T.length) c) (hI'.out.more hb2) hEl hb3 hO3 (by rw [Lib.byteCells_append]; simpa [Lib.strCells, Lib.byteCells] using hB3))
      have HK3 := Lib.hid ((keeps_below hb2').trans (keeps_wrote hb3 (hI'.out.more hb2).bld hO3))
      clear hb2 hb2' hB3 hb3 hO3
      have hl3 := HI3.out.lt
      refine h8 _ _ ?_
      gi_wp2_with fail
      refine ⟨trivial, ?_⟩
      refine (callsIn_wide.2 (Try.Builder_String_any_k (w.heap.size + 1) (w.heap.size + 1) _ _ HI3.out.bld (by omega))).mono ?_
      rintro e W5 ⟨rfl, -, hb5, hO5⟩
      have HK5 := Lib.hid (HK3.out.trans (keeps_wrote hb5 HI3.out.bld hO5))
      have HM5 := Lib.hid (HI3.out.mv.trans (.of (hb5.mono (by omega))))
      clear hb5 hO5 HI3 HK3
      gi_wp2
      have hD5 := HK5.out.same _ _ HKD.out rfl
      refine ⟨by simp, .inl ⟨_, _, rfl, run_takeDeferred hD5, ?_⟩⟩
      exact ⟨.string ⟨(chT (divT m gh) p0 s.data.toList s.size).toArray⟩, by rw [← HTT.out]; simp [results, Try.f120, go_sem], rfl, HM5.out.grown (grownBy_putObj' _ D _) (by have := HM5.out.size; omega) (fun r e => by cases e; omega)⟩
end Go.Proofs.Ytkipgeecibimoaa
