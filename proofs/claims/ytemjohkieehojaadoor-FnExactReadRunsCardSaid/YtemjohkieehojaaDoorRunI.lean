/- The text of runs: the program's side. -/
import Derived.Test.YtemjohkieehojaaDoorRunM
import Derived.Test.YtemjohkieehojaaDoorRunsH
import Derived.Test.YtemjohkieehojaaDoorDropI
import Derived.Test.YtemjohkieehojaaDoorDecLaw
namespace Go.Proofs.YtemjohkieehojaaDoor
open Go.RowKit Go.Shelf
set_option linter.unusedVariables false
set_option linter.unusedSimpArgs false
attribute [local go_sem] Oper.semAt_some

/-- the builder in block w0's end holds the text L, and what is below is as it was -/
def RunJ (w0 : World) (L : List UInt8) (W : World) : Prop :=
  Lib.IsBuilderF TB TU w0.heap.size w0.heap.size (Lib.byteCells L) W ∧ w0.heap.size + 1 < W.heap.size ∧ Below w0.heap.size w0 W
theorem RunJ.own (w0 : World) (f : List (Int × Int) → List UInt8) (B : Nat) (hB : B = w0.heap.size + 2) : OwnFromH MineR B (fun pre W => RunJ w0 (f pre) W) := by
  intro pre X Y row h hg hr
  obtain ⟨h1, h4, h5⟩ := h
  refine ⟨builder_kept h1 (fun k o hk hko => ?_), Nat.lt_of_lt_of_le h4 hg.size, h5.grown hg (by omega) (fun r e => by have := (hr r e).1; omega)⟩
  refine (hg.block k (Array.getElem?_eq_some_iff.1 hk).1 (fun e => ?_)).trans hk
  obtain ⟨hb, o', ho', hc⟩ := hr k e.symm
  rw [hk] at ho'; cases ho'
  rcases hko with rfl | ⟨cc, fz, rfl⟩
  · omega
  · simp only [isHis] at hc
    revert hc
    decide
theorem RunJ.more {w0 W1 W2 : World} {L : List UInt8} (h : RunJ w0 L W1) (b2 : Below W1.heap.size W1 W2) : RunJ w0 L W2 :=
  ⟨builder_kept h.1 (fun k o hk _ => (b2.block k (Array.getElem?_eq_some_iff.1 hk).1).trans hk), Nat.lt_of_lt_of_le h.2.1 b2.size, h.2.2.trans (b2.mono (by have := h.2.1; omega))⟩
theorem RunJ.wrote {w0 W1 W2 : World} {L M : List UInt8} (h : RunJ w0 L W1) (h3 : Lib.BuilderAtF TB TU w0.heap.size w0.heap.size (.pointer (some ⟨w0.heap.size, 0, none⟩)) (Lib.byteCells M) W2) (b : Below w0.heap.size W1 W2) : RunJ w0 M W2 :=
  ⟨.inr h3, Nat.lt_of_lt_of_le h.2.1 b.size, h.2.2.trans b⟩
theorem run_rune (w0 : World) (L : List UInt8) (c : UInt8) (hc : c.toNat ≤ 127) (hl : L.length ≤ 100000) (W : World) (h : RunJ w0 L W) :
    Calls Tryd.prog 50 #[.pointer (some ⟨w0.heap.size, 0, none⟩), .int .i32 (c.toNat : Int)] W fun e W' => (∃ y, e = .returned y) ∧ RunJ w0 (L ++ [c]) W' ∧ KeepsHis MineR W W' := by
  refine (writeRune_low w0.heap.size w0.heap.size _ (c.toNat : Int) W (by omega) (by omega) h.1 (by rw [Lib.byteCells_length]; omega) (by have := h.2.1; omega)).mono ?_
  rintro e w3 ⟨rfl, h3, b3, k3⟩
  refine ⟨⟨_, rfl⟩, h.wrote (M := L ++ [c]) (by rw [show Lib.byteCells (L ++ [c]) = Lib.byteCells L ++ [.int .u8 (c.toNat : Int)] by simp [Lib.byteCells]]; exact h3) b3, keeps_his_wrote (by decide) (by decide) b3 h.1 k3⟩
theorem run_rune' (w0 : World) (L : List UInt8) (c : UInt8) (ci : Int) (hci : ci = (c.toNat : Int)) (hc : c.toNat ≤ 127) (hl : L.length ≤ 100000) (W : World) (h : RunJ w0 L W) :
    Calls Tryd.prog 50 #[.pointer (some ⟨w0.heap.size, 0, none⟩), .int .i32 ci] W fun e W' => (∃ y, e = .returned y) ∧ RunJ w0 (L ++ [c]) W' ∧ KeepsHis MineR W W' := by
  subst hci; exact run_rune w0 L c hc hl W h
theorem run_len (w0 : World) (L : List UInt8) (W : World) (h : RunJ w0 L W) :
    Calls Tryd.prog 24 #[.pointer (some ⟨w0.heap.size, 0, none⟩)] W fun e w' => e = .returned (.int .i64 (L.length : Int)) ∧ W = w' := by
  have h2 := builderLen_any w0.heap.size w0.heap.size _ W h.1
  rw [Lib.byteCells_length] at h2
  exact h2
theorem run_str (w0 : World) (L M : List UInt8) (hl : L.length ≤ 100000) (hm : M.length ≤ 100000) (W : World) (h : RunJ w0 L W) :
    Calls Tryd.prog 25 #[.pointer (some ⟨w0.heap.size, 0, none⟩), .string ⟨M.toArray⟩] W fun e W' => (∃ y, e = .returned y) ∧ RunJ w0 (L ++ M) W' ∧ KeepsHis MineR W W' := by
  have hz : (⟨M.toArray⟩ : ByteArray).size = M.length := by rw [← size_toList]
  refine (writeString_any w0.heap.size w0.heap.size _ ⟨M.toArray⟩ W h.1 (by rw [Lib.byteCells_length, hz]; omega) (by have := h.2.1; omega)).mono ?_
  rintro e w3 ⟨rfl, h3, b3, k3⟩
  refine ⟨⟨_, rfl⟩, h.wrote (M := L ++ M) (by rw [Lib.byteCells_append]; simpa [Lib.strCells, Lib.byteCells] using h3) b3, keeps_his_wrote (by decide) (by decide) b3 h.1 k3⟩

set_option maxRecDepth 100000 in
set_option maxHeartbeats 1000000 in
theorem implRuns_in (n : Nat) (hn : 8 ≤ n) (s : ByteArray) (w : World) (hs : s.size ≤ maxLen) (hw : waveB s.data.toList = true) (h0 : 0 < s.size) (hd : DoorW w) :
    CallsIn Fence.wide n Tryd.prog 28 #[.string s] w fun e W' => e = .returned (.tuple #[.string ⟨(runT (runsL s)).toArray⟩, .bool true]) ∧ Below w.heap.size w W' := by
  have h1 : 1 ≤ n := by omega
  have hz : s.size ≤ 400 := by
    unfold waveB at hw; simp only [Bool.and_eq_true, decide_eq_true_eq, size_toList] at hw; omega
  have hall : s.data.toList.all lvlB = true := by
    unfold waveB at hw; simp only [Bool.and_eq_true] at hw; exact hw.1
  have HALL := Lib.hid hall
  have HD := Lib.hid hd
  have HC := Lib.hid (fun w => implIsWave s w hs)
  rw [hw] at HC
  have hne : s.toList.isEmpty = false := by
    rw [ByteArray.toList_eq]
    have := size_toList s
    cases hl : s.data.toList with
    | nil => rw [hl] at this; simp at this; omega
    | cons _ _ => rfl
  have hne2 : (s.toList == []) = false := by
    cases hl : s.toList with
    | nil => rw [hl] at hne; cases hne
    | cons _ _ => rfl
  clear hw hall hd
  refine callsIn_of_wp_marks Tryd.func28 rfl trivial ?_ rfl
  simp only [Tryd.ntmps28, List.size_toArray, List.length_cons, List.length_nil, Nat.reduceAdd, Nat.reduceSub, Array.replicate_succ, Array.replicate_zero, List.push_toArray, List.append_toArray, List.nil_append, List.cons_append]
  gi_wp2_with fail
  refine ⟨trivial, ?_⟩
  refine (callsIn_wide (n := n - 1).2 (HC.out _)).mono ?_
  rintro e w1 ⟨rfl, b1⟩
  have HB1 := Lib.hid b1
  clear b1
  gi_wp2_with fail
  refine ⟨trivial, ?_⟩
  refine (runsOf_told (n - 1) s _).mono ?_
  rintro e w2 ⟨rfl, rfl⟩
  gi_wp2_with fail
  obtain ⟨W1, hW1⟩ : ∃ W1, ((w1.alloc (.cells #[.pointer none, .slice none 0 0] TB)).alloc (.cells #[.string s] 9)) = W1 := ⟨_, rfl⟩
  have hW1s : W1.heap.size = w1.heap.size + 2 := by rw [← hW1]; simp
  have g : ∀ (V : World) (k : Nat) (o o' : Obj), V.heap[k]? = some o → (V.alloc o').heap[k]? = some o := fun V k o o' hk => (Below.heap_alloc V o' k (Array.getElem?_eq_some_iff.1 hk).1).trans hk
  have hS : W1.heap[w1.heap.size + 1]? = some (.cells #[.string s] 9 (0, 0)) := by
    have h := heap_alloc_last (w1.alloc (.cells #[.pointer none, .slice none 0 0] TB)) (.cells #[.string s] 9)
    rw [World.size_alloc, hW1] at h
    exact h
  have hI0 : RunJ w1 (runT []) W1 := by
    have hBl : Below w1.heap.size w1 W1 := by
      rw [← hW1]; exact ((Below.refl _ w1).alloc (Nat.le_refl _) _).alloc (by simp) _
    refine ⟨?_, by omega, hBl⟩
    have hf := Lib.IsBuilderF.of (Lib.fresh_isBuilder TB TU w1)
    rw [← hW1]
    exact builder_kept hf (fun k o hk _ => g _ _ _ _ hk)
  rw [hW1]
  clear hW1 g
  refine loop_toldH (ts := MineR) (Z := fun _ => True) rfl h1 (gf := 68) (lb := #[.pointer (some ⟨w1.heap.size + 1, 0, none⟩)]) rfl trivial (enters_of Tryd.func68 (by kernel_rfl) rfl) (runsL s)
    (runs_toldH (n - 1) (by omega) (w1.heap.size + 1) s HALL.out (by omega) W1 (by omega) hS) (fun _ => rfl)
    (fun pre W => RunJ w1 (runT pre) W ∧ (runT pre).length ≤ pre.length * 24) (fun pre X Y row h hg hr => ⟨RunJ.own w1 runT _ hW1s pre X Y row h.1 hg hr, h.2⟩) (fun _ _ _ => trivial) ⟨hI0, by simp [runT]⟩
    (fun x => { tmps := #[.string s, undef, .string ⟨#[]⟩, .bool false, .pointer (some ⟨w1.heap.size, 0, none⟩), .int .i32 x.1, .int .i64 x.2, .string s, .bool true, .bool false, .string s, .bool false, .string s, .func (.func 68) #[] #[.pointer (some ⟨w1.heap.size + 1, 0, none⟩)], .int .i32 x.1, .int .i64 x.2, undef, undef, undef, undef, undef, undef, undef, undef, undef, undef], defers := [] }) ?assign ?body ?done
  case assign =>
    intro l x W K hK
    gi_wp2
    exact hK
  case body =>
    rintro l pre ⟨lv, len⟩ post W hpx ⟨hI, hlen⟩
    obtain ⟨hok, -⟩ := partsT_next s 49 0 HALL.out pre post _ hpx
    have hpl : pre.length ≤ 401 := by
      have e := congrArg List.length hpx
      simp only [List.length_append, List.length_cons] at e
      have := runsL_lenR s
      omega
    obtain ⟨hlv, hl0, hl1⟩ := hok
    dsimp only at hlv hl0 hl1
    obtain ⟨L, hL⟩ : ∃ L, runT pre = L := ⟨_, rfl⟩
    have hsn := runT_snoc pre (lv, len)
    rw [hL] at hI hlen hsn
    have hit := Lib.itoa_length_le len (by omega) (by omega)
    obtain ⟨c, hc, hcn, hcl⟩ : ∃ c : UInt8, levR lv = c ∧ c.toNat ≤ 127 ∧ lv = (c.toNat : Int) := by
      rcases hlv with rfl | rfl
      · exact ⟨48, rfl, by decide, rfl⟩
      · exact ⟨49, rfl, by decide, rfl⟩
    have honeR : oneR (lv, len) = [c, 120] ++ Lib.itoa len := by unfold oneR; rw [hc]
    rw [honeR] at hsn
    have HSN := Lib.hid hsn
    have HI := Lib.hid hI
    have HDEC : Hid (∀ W, Below w1.heap.size w1 W → Calls Tryd.prog 51 #[.int .i64 len] W fun e w' => e = .returned (.string ⟨(Lib.itoa len).toArray⟩) ∧ Below W.heap.size W w') := fun W hW =>
      implDec len W (by omega) (by omega) (HD.out.on (HB1.out.trans (hW.mono HB1.out.size)))
    have hLl : L.length ≤ 10000 := by
      have : pre.length * 24 ≤ 401 * 24 := Nat.mul_le_mul_right 24 hpl
      omega
    have HLEN : Hid ((runT (pre ++ [(lv, len)])).length ≤ (pre ++ [(lv, len)]).length * 24) := by
      show _ ≤ _
      rw [hsn]
      have h4 : (sepR L).length ≤ 1 := by unfold sepR; split <;> simp
      simp only [List.length_append, List.length_cons, List.length_nil]
      omega
    subst hcl
    clear hI hsn hpx hL hc honeR hlv hlen
    gi_wp2_with fail
    refine ⟨trivial, fun h => absurd h (by decide), ?_⟩
    refine (CallsIn.inRound l (callsIn_wide.2 (run_len w1 L _ HI.out))).mono ?_
    rintro e w' ⟨rfl, rfl⟩
    by_cases hpos : 0 < L.length
    · have HEM : Hid (L.isEmpty = false) := by show _ = _; cases hLc : L with | nil => rw [hLc] at hpos; simp at hpos | cons _ _ => rfl
      have hpI : (0 : Int) < (L.length : Int) := by omega
      gi_wp2_with fail
      refine ⟨trivial, fun h => absurd h (by decide), ?_⟩
      refine (CallsIn.inRound l (callsIn_wide.2 (run_rune' w1 L 32 32 (by decide) (by decide) (by omega) _ HI.out))).mono ?_
      rintro e W2 ⟨⟨y2, rfl⟩, hJ2, hK2⟩
      have HJ0 := Lib.hid hJ2
      have HK0 := Lib.hid hK2
      clear hJ2 hK2
      gi_wp2_with fail
      refine ⟨trivial, fun h => absurd h (by decide), ?_⟩
      refine (CallsIn.inRound l (callsIn_wide.2 (run_rune' w1 (L ++ [32]) c (c.toNat : Int) rfl hcn (by first | omega | (simp; omega)) _ HJ0.out))).mono ?_
      rintro e W3 ⟨⟨y3, rfl⟩, hJ3, hK3⟩
      have HJ3 := Lib.hid hJ3
      have HK3 := Lib.hid (HK0.out.trans hK3)
      clear hJ3 hK3
      gi_wp2_with fail
      refine ⟨trivial, fun h => absurd h (by decide), ?_⟩
      refine (CallsIn.inRound l (callsIn_wide.2 (run_rune' w1 _ 120 120 (by decide) (by decide) (by first | omega | (simp; omega)) _ HJ3.out))).mono ?_
      rintro e W4 ⟨⟨y4, rfl⟩, hJ4, hK4⟩
      have HJ4 := Lib.hid hJ4
      have HK4 := Lib.hid (HK3.out.trans hK4)
      clear hJ4 hK4
      gi_wp2_with fail
      refine ⟨trivial, fun h => absurd h (by decide), ?_⟩
      refine (CallsIn.inRound l (callsIn_wide.2 (HDEC.out _ HJ4.out.2.2))).mono ?_
      rintro e W5 ⟨rfl, b5⟩
      have HJ5 := Lib.hid (HJ4.out.more b5)
      have HK5 := Lib.hid (HK4.out.trans (KeepsHis.below b5))
      clear b5
      gi_wp2_with fail
      refine ⟨trivial, fun h => absurd h (by decide), ?_⟩
      refine (CallsIn.inRound l (callsIn_wide.2 (run_str w1 _ (Lib.itoa len) (by first | omega | (simp; omega)) (by omega) _ HJ5.out))).mono ?_
      rintro e W6 ⟨⟨y6, rfl⟩, hJ6, hK6⟩
      have HJ6 := Lib.hid hJ6
      have HK6 := Lib.hid (HK5.out.trans hK6)
      clear hJ6 hK6
      gi_wp2
      refine ⟨HK6.out.from _, HK6.out, ?_, HLEN.out⟩
      rw [HSN.out]
      have h9 := HJ6.out
      simpa [sepR, HEM.out] using h9
    · have HEM : Hid (L.isEmpty = true) := by show _ = _; cases hLc : L with | nil => rfl | cons _ _ => rw [hLc] at hpos; simp at hpos
      have hpI : ¬ (0 : Int) < (L.length : Int) := by omega
      have HJ0 := HI
      have HK0 := Lib.hid (KeepsHis.refl MineR W)
      gi_wp2_with fail
      refine ⟨trivial, fun h => absurd h (by decide), ?_⟩
      refine (CallsIn.inRound l (callsIn_wide.2 (run_rune' w1 L c (c.toNat : Int) rfl hcn (by first | omega | (simp; omega)) _ HJ0.out))).mono ?_
      rintro e W3 ⟨⟨y3, rfl⟩, hJ3, hK3⟩
      have HJ3 := Lib.hid hJ3
      have HK3 := Lib.hid (HK0.out.trans hK3)
      clear hJ3 hK3
      gi_wp2_with fail
      refine ⟨trivial, fun h => absurd h (by decide), ?_⟩
      refine (CallsIn.inRound l (callsIn_wide.2 (run_rune' w1 _ 120 120 (by decide) (by decide) (by first | omega | (simp; omega)) _ HJ3.out))).mono ?_
      rintro e W4 ⟨⟨y4, rfl⟩, hJ4, hK4⟩
      have HJ4 := Lib.hid hJ4
      have HK4 := Lib.hid (HK3.out.trans hK4)
      clear hJ4 hK4
      gi_wp2_with fail
      refine ⟨trivial, fun h => absurd h (by decide), ?_⟩
      refine (CallsIn.inRound l (callsIn_wide.2 (HDEC.out _ HJ4.out.2.2))).mono ?_
      rintro e W5 ⟨rfl, b5⟩
      have HJ5 := Lib.hid (HJ4.out.more b5)
      have HK5 := Lib.hid (HK4.out.trans (KeepsHis.below b5))
      clear b5
      gi_wp2_with fail
      refine ⟨trivial, fun h => absurd h (by decide), ?_⟩
      refine (CallsIn.inRound l (callsIn_wide.2 (run_str w1 _ (Lib.itoa len) (by first | omega | (simp; omega)) (by omega) _ HJ5.out))).mono ?_
      rintro e W6 ⟨⟨y6, rfl⟩, hJ6, hK6⟩
      have HJ6 := Lib.hid hJ6
      have HK6 := Lib.hid (HK5.out.trans hK6)
      clear hJ6 hK6
      gi_wp2
      refine ⟨HK6.out.from _, HK6.out, ?_, HLEN.out⟩
      rw [HSN.out]
      have h9 := HJ6.out
      simpa [sepR, HEM.out] using h9
  case done =>
    rintro D W hD ⟨⟨hB, hs2, hb⟩, hlen⟩ hK
    have HBB := Lib.hid hB
    have HKD := Lib.hid hK
    have HBW := Lib.hid hb
    clear hB hb hK
    gi_wp2_with fail
    refine ⟨trivial, ?_⟩
    refine (callsIn_wide.2 (Tryd.Builder_String_any_k w1.heap.size w1.heap.size _ _ HBB.out (by omega))).mono ?_
    rintro e W5 ⟨rfl, -, hb5, hO5⟩
    have HK5 := Lib.hid (keeps_his_wrote (ts := []) (by decide) (by decide) hb5 HBB.out hO5)
    have HM5 := Lib.hid (HB1.out.trans ((HBW.out.trans hb5).mono HB1.out.size))
    clear hb5 hO5
    gi_wp2
    have hD5 := HK5.out.same _ _ HKD.out rfl
    refine ⟨by simp, .inl ⟨_, _, rfl, run_takeDeferred hD5, ?_⟩⟩
    exact ⟨.tuple #[.string ⟨(runT (runsL s)).toArray⟩, .bool true], by simp [results, Tryd.results28, go_sem], rfl, HM5.out.grown (grownBy_putObj' _ D _) (by have := HM5.out.size; omega) (fun r e => by cases e; have := HB1.out.size; omega)⟩
end Go.Proofs.YtemjohkieehojaaDoor
