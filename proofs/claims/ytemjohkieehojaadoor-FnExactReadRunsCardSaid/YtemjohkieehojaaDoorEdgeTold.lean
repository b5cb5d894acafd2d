/- The iterator over the changes of a wave, told: its rounds know which of the changes have come. -/
import Derived.RangeFuncBox
import Derived.RangeFuncLeaves
import Derived.Shelf.Abstract
import Derived.WalkKit
import Derived.OwnWalkIn
import Derived.TacticsInMore
import Derived.LoopNIn
import Derived.LoopIn
import Derived.Maps.AppendAt
import Derived.Lib.OthersKept
import Derived.WalkSmall
import Derived.Test.YtemjohkieehojaaDoorEdgeWords
import Derived.Test.YtemjohkieehojaaDoorTold
import Derived.Test.YtemjohkieehojaaDoorRows
namespace Go.Proofs.YtemjohkieehojaaDoor
open Go.RowKit Go.Shelf

attribute [local go_sem] Oper.semAt_some

theorem grownBy_iterTold (w : World) (k : Nat) (s : ByteArray) (pos : Nat) : w.grownBy (w.iterAt k s pos) (some k) :=
  ⟨rfl, rfl, rfl, by rw [Lib.iterAt_size]; exact Nat.le_refl _, fun j _ hj => Lib.iterAt_other w k j s pos (fun e => hj (by rw [e]))⟩

theorem edgesOf_told (n : Nat) (s : ByteArray) (w : World) :
    CallsIn Fence.wide n Tryd.prog 69 #[.string s] w fun e w' => e = .returned (.func (.func 82) #[] #[.pointer (some ⟨w.heap.size, 0, none⟩)]) ∧ w' = w.alloc (.cells #[.string s] 9) := by
  refine callsIn_of_wp Tryd.func69 rfl trivial ?_ rfl
  simp only [Tryd.ntmps69, List.size_toArray, List.length_cons, List.length_nil, Nat.reduceAdd, Nat.reduceSub, Array.replicate_succ, Array.replicate_zero, List.push_toArray, List.append_toArray, List.nil_append, List.cons_append]
  gi_wp2
  go_ret
  exact ⟨rfl, rfl⟩

set_option maxRecDepth 100000 in
set_option maxHeartbeats 1000000 in
theorem edges_told (n : Nat) (hn : 1 ≤ n) (Bn : Nat) (s : ByteArray) (hwave : s.data.toList.all lvlB = true) (w : World) (hBn : Bn < w.heap.size) (hc : w.cell? ⟨Bn, 0, none⟩ = some (.string s)) :
    Tells Fence.wide n Tryd.prog 82 #[.pointer (some ⟨Bn, 0, none⟩)] (fun x : Int × Int => #[Value.int .i64 x.1, .int .i32 x.2]) (chgsL s.data.toList s.size) w := by
  intro l J W hbW hJ hY h0
  have hBn := (hbW.cell (p := ⟨Bn, 0, none⟩) hBn).trans hc
  refine callsIn_of_wp Tryd.func82 rfl trivial ?_ rfl
  simp only [Tryd.ntmps82, List.size_toArray, List.length_cons, List.length_nil, Nat.reduceAdd, Nat.reduceSub, Array.replicate_succ, Array.replicate_zero, List.push_toArray, List.append_toArray, List.nil_append, List.cons_append]
  have h1 : J [] (W.iter s 0) := hJ _ _ _ none h0 (World.grownBy_alloc W _ none) (fun r e => by cases e)
  gi_wp2
  gi_loopw [3, 4, 5] (fun b _ _ wr => ∃ k : Nat, k ≤ s.size ∧ b = .int .i32 (prL s.data.toList k) ∧ wr.heap[W.heap.size]? = some (.stringIter s k) ∧ J (chgsL s.data.toList k) wr)
    (fun _ _ _ wr => s.size - wr.iterPos W.heap.size)
  case atStart => exact ⟨0, Nat.zero_le _, rfl, World.iter_heap W s 0, h1⟩
  case round =>
    obtain ⟨k, hk, rfl, hit, hJk⟩ := hrel
    by_cases hlt : k < s.size
    · have hlv : lvlB s[k] = true := by
        have := List.all_eq_true.1 hwave s[k] (by simp [ByteArray.getElem_eq_getElem_data])
        exact this
      have hlv2 : (s[k].toNat : Int) = 48 ∨ (s[k].toNat : Int) = 49 := by simpa [lvlB] using hlv
      have HLV := Lib.hid hlv2
      have ha : s[k].toNat < 128 := by omega
      clear hlv hlv2
      have hnx : ∀ ty, (Instr.next (.pointer (some ⟨W.heap.size, 0, none⟩)) true ty).run Tryd.prog wr = _ := fun ty => Lib.run_next_ascii_at wr W.heap.size s k ty hit hlt ha
      have hit2 := Lib.iterAt_heap wr W.heap.size s k (k + 1) hit
      have hJ2 : J (chgsL s.data.toList k) (wr.iterAt W.heap.size s (k + 1)) := hJ _ _ _ (some W.heap.size) hJk (grownBy_iterTold _ _ _ _) (fun r e => by cases e; exact ⟨Nat.le_refl _, _, hit, rfl⟩)
      have HP := Lib.hid (prL_succ s k hlt)
      by_cases hc : (s[k].toNat : Int) = prL s.data.toList k
      · have HS := Lib.hid (chgsL_miss s k hlt hc)
        have hcb : ((s[k].toNat : Int) != prL s.data.toList k) = false := by simp [hc]
        clear hc
        gi_wp2
        refine ⟨fun _ h => (by cases h), ?_⟩
        gi_wp2
        go_roundw
        case rel => exact ⟨k + 1, by omega, by rw [HP.out], hit2, by rw [HS.out]; exact hJ2⟩
        case measure => rw [iterPos_of hit2, iterPos_of hit]; omega
      · have HS := Lib.hid (chgsL_hit s k hlt hc)
        have hcb : ((s[k].toNat : Int) != prL s.data.toList k) = true := by simp [hc]
        clear hc
        obtain ⟨post, hpost⟩ := chgsL_prefix s.data.toList (k + 1) s.size (by omega)
        obtain ⟨fn, tmps, assign, body, hy, hR⟩ := hY _ ((k : Int), (s[k].toNat : Int)) post _ (by rw [← hpost, HS.out]; simp) hJ2
        clear hpost
        dsimp only at hy
        gi_wp2
        refine hR.mono ?_
        rintro e W3 ⟨rfl, hJ3, hk3⟩
        have hit3 := hk3.same _ _ hit2 rfl
        gi_wp2
        go_roundw
        case rel => exact ⟨k + 1, by omega, by rw [HP.out], hit3, by rw [HS.out]; exact hJ3⟩
        case measure => rw [iterPos_of hit3, iterPos_of hit]; omega
    · have hnx : ∀ ty, (Instr.next (.pointer (some ⟨W.heap.size, 0, none⟩)) true ty).run Tryd.prog wr = _ := fun ty => Lib.run_next_end_at wr W.heap.size s k ty hit hlt
      obtain rfl : k = s.size := by omega
      gi_wp2
      go_end0
      exact ⟨⟨_, rfl⟩, hJk⟩
end Go.Proofs.YtemjohkieehojaaDoor
