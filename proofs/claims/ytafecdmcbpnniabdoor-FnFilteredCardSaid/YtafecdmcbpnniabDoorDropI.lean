/- A wave without short parts: the program's side. -/
import Derived.Test.YtafecdmcbpnniabDoorDropM2
import Derived.Test.YtafecdmcbpnniabDoorRunsH
import Derived.Test.YtafecdmcbpnniabDoorCanF
import Derived.Test.YtafecdmcbpnniabDoorBldStr
import Derived.Test.YtafecdmcbpnniabDoorShelf
import Derived.Stop.RegionWithIn
import Derived.RangeFuncCalls
import Derived.Deep.RegionWith
namespace Go.Proofs.YtafecdmcbpnniabDoor
open Go.RowKit Go.Shelf
set_option linter.unusedVariables false
set_option linter.unusedSimpArgs false
attribute [local go_sem] Oper.semAt_some

theorem levelOfD (b : Bool) (w : World) :
    Calls Tryd.prog 35 #[.bool b] w fun e w' => e = .returned (.int .i32 (if b then 49 else 48)) ∧ w = w' := by
  cases b
  all_goals
    go_enter Tryd.func35, Tryd.ntmps35
    go_wp2
    go_ret
    exact ⟨rfl, rfl⟩
theorem repD (c : UInt8) (k : Nat) (W : World) (hc : c = 48 ∨ c = 49) (hk : k ≤ 400) :
    Calls Tryd.prog 38 #[.string (Utf8.encode (c.toNat : Int)), .int .i64 (k : Int)] W fun e W' => e = .returned (.string ⟨Array.replicate k c⟩) ∧ Below W.heap.size W W' := by
  have he : Utf8.encode (c.toNat : Int) = ⟨#[c]⟩ := by
    rcases hc with rfl | rfl
    · decide
    · decide
  rw [he]
  have hl : ∀ k, Lib.repeatL [c] k = List.replicate k c := fun k => by
    induction k with
    | zero => rfl
    | succ n ih => simp [Lib.repeatL, List.replicate_succ, ih]
  refine (Tryd.strings_Repeat ⟨#[c]⟩ k W (by omega) (by show 1 * k ≤ _; omega)).mono ?_
  rintro e w' ⟨rfl, hb⟩
  have hz : (⟨(Lib.repeatL [c] k).toArray⟩ : ByteArray) = ⟨Array.replicate k c⟩ := by rw [hl]; simp
  exact ⟨by rw [← hz], hb⟩
theorem KeepsHis.below {ts : List TypeId} {W W' : World} (hb : Below W.heap.size W W') : KeepsHis ts W W' := ⟨hb.size, fun k o hk _ => (hb.block k (Array.getElem?_eq_some_iff.1 hk).1).trans hk⟩
theorem builder_kept {b : Nat} {bs : List Value} {w w' : World} (h : Lib.IsBuilderF TB TU b b bs w) (hk : ∀ k o, w.heap[k]? = some o → (k = b ∨ ∃ c fz, o = .cells c TU fz) → w'.heap[k]? = some o) : Lib.IsBuilderF TB TU b b bs w' := by
  have one : ∀ p, Lib.BuilderAtF TB TU b b p bs w → Lib.BuilderAtF TB TU b b p bs w' := by
    rintro p ⟨hB, v, hb, hown, hne⟩
    refine ⟨hB, v, hk _ _ hb (.inl rfl), ⟨hown.1, ?_⟩, hne⟩
    rcases hown.2 with hv | ⟨g, cap, cur, fz, hv, hg, hgg, rest⟩
    · exact .inl hv
    · exact .inr ⟨g, cap, cur, fz, hv, hg, hk _ _ hgg (.inr ⟨_, _, rfl⟩), rest⟩
  exact h.elim (fun x => .inl (one _ x)) (fun x => .inr (one _ x))
theorem builder_his {b : Nat} {bs : List Value} {w : World} {ts : List TypeId} (h : Lib.IsBuilderF TB TU b b bs w) (hts : ts.contains TB = false) : ∃ o, w.heap[b]? = some o ∧ isHis ts o = false := by
  rcases h with ⟨_, v, hb, _⟩ | ⟨_, v, hb, _⟩ <;> exact ⟨_, hb, by simpa [isHis] using hts⟩
theorem keeps_his_wrote {ts : List TypeId} {W W' : World} {B b : Nat} {bs : List Value} (hts : ts.contains TB = false) (htu : ts.contains TU = false) (hb : Below B W W') (h : Lib.IsBuilderF TB TU b b bs W) (hk : Lib.OthersKept TU (some b) W W') : KeepsHis ts W W' :=
  ⟨hb.size, fun k o hko ho => hk k o hko (fun e => by
    cases e
    obtain ⟨o', h1, h2⟩ := builder_his h hts
    rw [hko] at h1; cases h1; rw [ho] at h2; cases h2) (fun c fz e => by subst e; simp only [isHis] at ho; rw [ho] at htu; cases htu)⟩

theorem rep49 (k : Nat) (W : World) (hk : k ≤ 400) :
    Calls Tryd.prog 38 #[.string (Utf8.encode 49), .int .i64 (k : Int)] W fun e W' => e = .returned (.string ⟨Array.replicate k 49⟩) ∧ Below W.heap.size W W' := repD 49 k W (.inr rfl) hk
theorem rep48 (k : Nat) (W : World) (hk : k ≤ 400) :
    Calls Tryd.prog 38 #[.string (Utf8.encode 48), .int .i64 (k : Int)] W fun e W' => e = .returned (.string ⟨Array.replicate k 48⟩) ∧ Below W.heap.size W W' := repD 48 k W (.inl rfl) hk

/-- between two parts: the two numbers asked for, and the builder with the text of the parts that came -/
def DropJ (c t : Int) (w0 : World) (pre : List (Int × Int)) (W : World) : Prop :=
  Lib.IsBuilderF TB TU (w0.heap.size + 2) (w0.heap.size + 2) (Lib.byteCells (partsT c t pre)) W ∧ W.heap[w0.heap.size]? = some (.cells #[.int .i32 c] 21 (0, 0)) ∧ W.heap[w0.heap.size + 1]? = some (.cells #[.int .i64 t] 2 (0, 0)) ∧ w0.heap.size + 3 < W.heap.size ∧ Below w0.heap.size w0 W
theorem DropJ.own (c t : Int) (w0 : World) (B : Nat) (hB : B = w0.heap.size + 4) : OwnFromH MineR B (DropJ c t w0) := by
  intro pre X Y row h hg hr
  obtain ⟨h1, h2, h3, h4, h5⟩ := h
  have hne : ∀ k, k < B → some k ≠ row := fun k hk e => by have := (hr k e.symm).1; omega
  refine ⟨builder_kept h1 (fun k o hk hko => ?_), (hg.block _ (by omega) (hne _ (by omega))).trans h2, (hg.block _ (by omega) (hne _ (by omega))).trans h3, Nat.lt_of_lt_of_le h4 hg.size, h5.grown hg (by omega) (fun r e => by have := (hr r e).1; omega)⟩
  refine (hg.block k (Array.getElem?_eq_some_iff.1 hk).1 (fun e => ?_)).trans hk
  obtain ⟨hb, o', ho', hc⟩ := hr k e.symm
  rw [hk] at ho'; cases ho'
  rcases hko with rfl | ⟨cc, fz, rfl⟩
  · omega
  · simp only [isHis] at hc
    revert hc
    decide
theorem DropJ.wrote {c t : Int} {w0 W1 W2 W3 : World} {pre : List (Int × Int)} {x : Int × Int} (h : DropJ c t w0 pre W1) (b2 : Below W1.heap.size W1 W2)
    (h3 : Lib.BuilderAtF TB TU (w0.heap.size + 2) (w0.heap.size + 2) (.pointer (some ⟨w0.heap.size + 2, 0, none⟩)) (Lib.byteCells (partsT c t pre) ++ Lib.strCells ⟨Array.replicate x.2.toNat (outLev c t x)⟩) W3) (b3 : Below (w0.heap.size + 2) W2 W3) : DropJ c t w0 (pre ++ [x]) W3 := by
  obtain ⟨h1, h2, h4, h5, h6⟩ := h
  have b13 : Below (w0.heap.size + 2) W1 W3 := (b2.mono (by omega)).trans b3
  refine ⟨.inr ?_, (b13.block _ (by omega)).trans h2, (b13.block _ (by omega)).trans h4, Nat.lt_of_lt_of_le h5 b13.size, h6.trans (b13.mono (by omega))⟩
  rw [partsT_snoc, Lib.byteCells_append]
  simpa [Lib.strCells, Lib.byteCells] using h3
theorem DropJ.more {c t : Int} {w0 W1 W2 : World} {pre : List (Int × Int)} (h : DropJ c t w0 pre W1) (b2 : Below W1.heap.size W1 W2) : Lib.IsBuilderF TB TU (w0.heap.size + 2) (w0.heap.size + 2) (Lib.byteCells (partsT c t pre)) W2 :=
  builder_kept h.1 (fun k o hk _ => (b2.block k (Array.getElem?_eq_some_iff.1 hk).1).trans hk)

set_option maxRecDepth 100000 in
set_option maxHeartbeats 1000000 in
theorem implWithout (n : Nat) (hn : 8 ≤ n) (s : ByteArray) (c : Int) (t : Int) (w : World) (hz : s.size ≤ 400) (hall : s.data.toList.all lvlB = true) (hcc : c = 48 ∨ c = 49) (ht : 0 ≤ t ∧ t ≤ 50) :
    CallsIn Fence.wide n Tryd.prog 21 #[.string s, .int .i32 c, .int .i64 t] w fun e W' => e = .returned (.string ⟨(partsT c t (runsL s)).toArray⟩) ∧ Below w.heap.size w W' := by
  have h1 : 1 ≤ n := by omega
  have HALL := Lib.hid hall
  clear hall
  refine callsIn_of_wp_marks Tryd.func21 rfl trivial ?_ rfl
  simp only [Tryd.ntmps21, List.size_toArray, List.length_cons, List.length_nil, Nat.reduceAdd, Nat.reduceSub, Array.replicate_succ, Array.replicate_zero, List.push_toArray, List.append_toArray, List.nil_append, List.cons_append]
  gi_wp2_with fail
  refine ⟨trivial, ?_⟩
  refine (runsOf_told (n - 1) s _).mono ?_
  rintro e w2 ⟨rfl, rfl⟩
  gi_wp2_with fail
  obtain ⟨W1, hW1⟩ : ∃ W1, ((((w.alloc (.cells #[.int .i32 c] 21)).alloc (.cells #[.int .i64 t] 2)).alloc (.cells #[.pointer none, .slice none 0 0] TB)).alloc (.cells #[.string s] 9)) = W1 := ⟨_, rfl⟩
  have hW1s : W1.heap.size = w.heap.size + 4 := by rw [← hW1]; simp
  have g : ∀ (V : World) (k : Nat) (o o' : Obj), V.heap[k]? = some o → (V.alloc o').heap[k]? = some o := fun V k o o' hk => (Below.heap_alloc V o' k (Array.getElem?_eq_some_iff.1 hk).1).trans hk
  have hS : W1.heap[w.heap.size + 3]? = some (.cells #[.string s] 9 (0, 0)) := by
    have h := World.alloc_heap_new (((w.alloc (.cells #[.int .i32 c] 21)).alloc (.cells #[.int .i64 t] 2)).alloc (.cells #[.pointer none, .slice none 0 0] TB)) (.cells #[.string s] 9)
    rw [World.size_alloc, World.size_alloc, World.size_alloc, hW1] at h
    exact h
  have h0 : DropJ c t w [] W1 := by
    have hBl : Below w.heap.size w W1 := by
      rw [← hW1]; exact ((((Below.refl _ w).alloc (Nat.le_refl _) _).alloc (by simp) _).alloc (by simp; omega) _).alloc (by simp; omega) _
    refine ⟨?_, ?_, ?_, by omega, hBl⟩
    · have hf := Lib.IsBuilderF.of (Lib.fresh_isBuilder TB TU ((w.alloc (.cells #[.int .i32 c] 21)).alloc (.cells #[.int .i64 t] 2)))
      rw [World.size_alloc, World.size_alloc] at hf
      rw [← hW1]
      exact builder_kept hf (fun k o hk _ => g _ _ _ _ hk)
    · rw [← hW1]; exact g _ _ _ _ (g _ _ _ _ (g _ _ _ _ (World.alloc_heap_new w _)))
    · rw [← hW1]
      have h := World.alloc_heap_new (w.alloc (.cells #[.int .i32 c] 21)) (.cells #[.int .i64 t] 2)
      rw [World.size_alloc] at h
      exact g _ _ _ _ (g _ _ _ _ h)
  rw [hW1]
  clear hW1 g
  refine loop_toldH (ts := MineR) (Z := fun _ => True) rfl h1 (gf := 49) (lb := #[.pointer (some ⟨w.heap.size + 3, 0, none⟩)]) rfl trivial (enters_of Tryd.func49 (by kernel_rfl) rfl) (runsL s)
    (runs_toldH (n - 1) (by omega) (w.heap.size + 3) s HALL.out (by omega) W1 (by omega) hS) (fun _ => rfl)
    (DropJ c t w) (DropJ.own c t w _ hW1s) (fun _ _ _ => trivial) h0
    (fun x => { tmps := #[.string s, .int .i32 c, .int .i64 t, undef, .pointer (some ⟨w.heap.size, 0, none⟩), .pointer (some ⟨w.heap.size + 1, 0, none⟩), .string ⟨#[]⟩, .pointer (some ⟨w.heap.size + 2, 0, none⟩), .int .i32 x.1, .int .i64 x.2, undef, .string s, .func (.func 49) #[] #[.pointer (some ⟨w.heap.size + 3, 0, none⟩)], .int .i32 x.1, .int .i64 x.2, undef, undef, undef, undef, undef, undef, undef, undef, undef, undef, undef, undef, undef, undef, undef, undef, undef, undef, undef], defers := [] }) ?assign ?body ?done
  case assign =>
    intro l x W K hK
    gi_wp2
    exact hK
  case body =>
    rintro l pre ⟨lv, len⟩ post W hpx hI
    obtain ⟨hok, hln⟩ := partsT_next s c t HALL.out pre post _ hpx
    obtain ⟨hlv, hl0, hl1⟩ := hok
    dsimp only at hlv hl0 hl1 hln
    obtain ⟨k, rfl⟩ := Int.eq_ofNat_of_zero_le (show 0 ≤ len by omega)
    have hk400 : k ≤ 400 := by omega
    have hln2 : (partsT c t pre).length + k ≤ 400 := by
      have : (Int.ofNat k).toNat = k := rfl
      simp at hln; omega
    have HI := Lib.hid hI
    have c4 : W.cell? ⟨w.heap.size, 0, none⟩ = some (.int .i32 c) := by rw [Lib.cell_of_heap hI.2.1]; rfl
    have c5 : W.cell? ⟨w.heap.size + 1, 0, none⟩ = some (.int .i64 t) := by rw [Lib.cell_of_heap hI.2.2.1]; rfl
    have hWs : w.heap.size + 3 < W.heap.size := hI.2.2.2.1
    have HWR : ∀ (u : UInt8) (W2 : World), outLev c t (lv, (k : Int)) = u → Below W.heap.size W W2 → Calls Tryd.prog 37 #[.pointer (some ⟨w.heap.size + 2, 0, none⟩), .string ⟨Array.replicate k u⟩] W2 fun e w' => (∃ y, e = .returned (.tuple #[y, .nilIface])) ∧ DropJ c t w (pre ++ [(lv, (k : Int))]) w' ∧ KeepsHis MineR W w' := by
      intro u W2 hu hb2
      have hsz : (⟨Array.replicate k u⟩ : ByteArray).size = k := by show (Array.replicate k u).size = _; simp
      refine (writeString_any _ _ _ _ _ (HI.out.more hb2) (by rw [Lib.byteCells_length, hsz]; omega) (by have := hb2.size; omega)).mono ?_
      rintro e w3 ⟨rfl, h3, b3, k3⟩
      refine ⟨⟨_, rfl⟩, HI.out.wrote hb2 (by rw [hu]; exact h3) b3, (KeepsHis.below hb2).trans (keeps_his_wrote (by decide) (by decide) b3 (HI.out.more hb2) k3)⟩
    have HWR2 := Lib.hid HWR
    clear hI hpx hln HWR
    rcases hlv with rfl | rfl <;> rcases hcc with rfl | rfl <;> by_cases hlt : (k : Int) < t
    all_goals
      first
        | have hd : decide ((k : Int) < t) = true := decide_eq_true hlt
        | have hd : decide ((k : Int) < t) = false := decide_eq_false hlt
      gi_wp2_with fail
      refine ⟨trivial, fun h => absurd h (by decide), ?_⟩
      refine (CallsIn.inRound l (callsIn_wide.2 (levelOfD _ _))).mono ?_
      rintro e w' ⟨rfl, rfl⟩
      gi_wp2_with fail
      refine ⟨trivial, fun h => absurd h (by decide), ?_⟩
      first
        | ((with_reducible refine (CallsIn.inRound l (callsIn_wide.2 (rep49 k _ hk400))).mono ?_); rintro e W2 ⟨rfl, hb2⟩; have hwr := HWR2.out 49 W2 (by simp [outLev, hlt]) hb2)
        | ((with_reducible refine (CallsIn.inRound l (callsIn_wide.2 (rep48 k _ hk400))).mono ?_); rintro e W2 ⟨rfl, hb2⟩; have hwr := HWR2.out 48 W2 (by simp [outLev, hlt]) hb2)
      gi_wp2_with fail
      refine ⟨trivial, fun h => absurd h (by decide), ?_⟩
      refine (CallsIn.inRound l (callsIn_wide.2 hwr)).mono ?_
      rintro e W3 ⟨⟨y, rfl⟩, hJ, hK⟩
      gi_wp2
      exact ⟨hK.from _, hK, hJ⟩
  case done =>
    rintro D W hD ⟨hB, c4, c5, hs, hb⟩ hK
    have HBB := Lib.hid hB
    have HKD := Lib.hid hK
    have HBW := Lib.hid hb
    have HLN := Lib.hid (partsT_size s c t HALL.out)
    clear hB c4 c5 hb hK
    gi_wp2_with fail
    refine ⟨trivial, ?_⟩
    refine (callsIn_wide.2 (Tryd.Builder_String_any_k (w.heap.size + 2) (w.heap.size + 2) _ _ HBB.out (by omega))).mono ?_
    rintro e W5 ⟨rfl, -, hb5, hO5⟩
    have HK5 := Lib.hid (keeps_his_wrote (ts := []) (by decide) (by decide) hb5 HBB.out hO5)
    have HM5 := Lib.hid (HBW.out.trans (hb5.mono (by omega)))
    clear hb5 hO5
    gi_wp2
    have hD5 := HK5.out.same _ _ HKD.out rfl
    refine ⟨by simp, .inl ⟨_, _, rfl, run_takeDeferred hD5, ?_⟩⟩
    exact ⟨.string ⟨(partsT c t (runsL s)).toArray⟩, by simp [results, Tryd.f21, go_sem], rfl, HM5.out.grown (grownBy_putObj' _ D _) (by have := HM5.out.size; omega) (fun r e => by cases e; omega)⟩

theorem implDrop_t (s : ByteArray) (T : Nat) (w : World) (hs : s.size ≤ maxLen) (hc : canB s (T : Int) = true) :
    Calls Tryd.prog 9 #[.string s, .int .i64 (T : Int)] w fun e w' => e = .returned (.tuple #[.string ⟨(partsT 49 (T : Int) (runsL s)).toArray⟩, .bool true]) ∧ Below w.heap.size w w' := by
  obtain ⟨hw, hT1, hT2⟩ := canB_t hc
  have hz := wave_le hw
  have hall : s.data.toList.all lvlB = true := by
    unfold waveB at hw; simp only [Bool.and_eq_true] at hw; exact hw.1
  have HF := Lib.hid (fun w => canF_any s (T : Int) w hs)
  rw [hc] at HF
  have HW := Lib.hid (fun w => callsIn_wide (n := 8).1 (implWithout 8 (Nat.le_refl _) s 49 (T : Int) w hz hall (.inr rfl) (by omega)))
  clear hw hc hall
  go_enter Tryd.func9, Tryd.ntmps9
  go_wp2_with fail
  refine (HF.out _).mono ?_; rintro e w1 ⟨rfl, b1⟩
  go_wp2_with fail
  refine (HW.out _).mono ?_; rintro e w2 ⟨rfl, b2⟩
  go_wp2
  go_ret2
  exact ⟨rfl, b1.trans (b2.mono b1.size)⟩
theorem implDrop_f (s : ByteArray) (T : Int) (w : World) (hs : s.size ≤ maxLen) (hc : canB s T = false) :
    Calls Tryd.prog 9 #[.string s, .int .i64 T] w fun e w' => e = .returned (.tuple #[.string ⟨#[]⟩, .bool false]) ∧ Below w.heap.size w w' := by
  have HF := Lib.hid (fun w => canF_any s T w hs)
  rw [hc] at HF
  clear hc
  go_enter Tryd.func9, Tryd.ntmps9
  go_wp2_with fail
  refine (HF.out _).mono ?_; rintro e w1 ⟨rfl, b1⟩
  go_wp2
  go_ret2
  exact ⟨rfl, b1⟩
end Go.Proofs.YtafecdmcbpnniabDoor
