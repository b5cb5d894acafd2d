/- strings.Join of short texts with one byte between them. -/
import Derived.Test.YtmhkeiccemfpeaaDoorStrs
import Derived.Test.YtmhkeiccemfpeaaDoorScoG
import Derived.Test.YtmhkeiccemfpeaaDoorBldStr
import Derived.Lib.Join
namespace Go.Proofs.YtmhkeiccemfpeaaDoor
open Go.RowKit
set_option linter.unusedVariables false
set_option linter.unusedSimpArgs false
/-- a builder of the call's own, at block B, that holds the bytes l -/
def BldW (B : Nat) (l : List UInt8) (w : World) : Prop := Lib.BuilderAtF TB TU B B (.pointer (some ⟨B, 0, none⟩)) (Lib.byteCells l) w
theorem byteCells_apw (a b : List UInt8) : Lib.byteCells (a ++ b) = Lib.byteCells a ++ Lib.byteCells b := by simp [Lib.byteCells]
theorem byteCells_lnw (l : List UInt8) : (Lib.byteCells l).length = l.length := by simp [Lib.byteCells]
theorem bldW_str (B : Nat) (l : List UInt8) (s : ByteArray) (w : World) (h : BldW B l w) (hB : B ≤ w.heap.size) (hl : l.length + s.size ≤ 1000000) :
    Calls Tryd.prog 30 #[.pointer (some ⟨B, 0, none⟩), .string s] w fun e w' => e = .returned (.tuple #[.int .i64 (s.size : Int), .nilIface]) ∧ BldW B (l ++ s.data.toList) w' ∧ Below B w w' := by
  refine (writeString_any B B (Lib.byteCells l) s w (.inr h) (by rw [byteCells_lnw]; omega) hB).mono ?_
  rintro e w' ⟨h1, h2, h3, -⟩
  exact ⟨h1, by unfold BldW; rw [byteCells_apw]; exact h2, h3⟩
/-- the joined bytes, so far -/
def jnL (ls : List ByteArray) (k : Nat) : List UInt8 := Lib.join ((ls.take k).map (fun s => s.data.toList)) [44]
theorem jnL_one (ls : List ByteArray) (h : 0 < ls.length) : jnL ls 1 = (ls.getD 0 ByteArray.empty).data.toList := by
  unfold jnL
  cases ls with
  | nil => simp at h
  | cons x r => simp [Lib.join_one]
theorem jnL_succ (ls : List ByteArray) (k : Nat) (h0 : 1 ≤ k) (h : k < ls.length) : jnL ls (k + 1) = jnL ls k ++ [44] ++ (ls.getD k ByteArray.empty).data.toList := by
  unfold jnL
  obtain ⟨j, rfl⟩ : ∃ j, k = j + 1 := ⟨k - 1, by omega⟩
  cases ls with
  | nil => simp at h
  | cons x r =>
    simp only [List.length_cons] at h
    rw [List.take_succ_cons, List.take_succ_cons, List.map_cons, List.map_cons, Lib.join_cons, Lib.join_cons]
    have hj : j < r.length := by omega
    have hy : (r.map (fun s => s.data.toList))[j]? = some (r[j].data.toList) := by simp [List.getElem?_eq_getElem hj]
    rw [List.map_take, List.map_take]
    have := Lib.joinTail_take_succ [44] (r.map (fun s => s.data.toList)) j _ hy
    rw [this]
    simp [List.getElem?_eq_getElem hj]
theorem jnL_all (ls : List ByteArray) : jnL ls ls.length = Lib.join (ls.map (fun s => s.data.toList)) [44] := by unfold jnL; rw [List.take_length]
theorem jnL_len (ls : List ByteArray) (hs : ∀ k, k < ls.length → (ls.getD k ByteArray.empty).size ≤ 100) : ∀ k, k ≤ ls.length → (jnL ls k).length ≤ 101 * k
  | 0, _ => by simp [jnL, Lib.join_nil]
  | k + 1, h => by
    have ih := jnL_len ls hs k (by omega)
    have hk := hs k (by omega)
    by_cases h0 : k = 0
    · subst h0
      rw [jnL_one ls (by omega), show (ls.getD 0 ByteArray.empty).data.toList.length = (ls.getD 0 ByteArray.empty).size by simp]
      omega
    · rw [jnL_succ ls k (by omega) (by omega)]
      simp only [List.length_append, List.length_cons, List.length_nil]
      rw [show (ls.getD k ByteArray.empty).data.toList.length = (ls.getD k ByteArray.empty).size by simp]
      omega
set_option maxHeartbeats 16000000 in
set_option maxRecDepth 100000 in
theorem join_any (a : Option Addr) (n cap : Nat) (ls : List ByteArray) (w : World) (hn : n = ls.length) (h : SRow w a ls) (hm : n ≤ 1000) (hcap : n ≤ cap) (hcm : cap ≤ maxLen) (hs : ∀ k, k < ls.length → (ls.getD k ByteArray.empty).size ≤ 100) :
    Calls Tryd.prog 18 #[.slice a n cap, .string ⟨#[44]⟩] w fun e w' => e = .returned (.string ⟨(jnL ls n).toArray⟩) ∧ Below w.heap.size w w' := by
  have HN := Lib.hid hn
  have HA := Lib.hid h
  have HS := Lib.hid hs
  have HJL := Lib.hid (jnL_len ls hs)
  clear hn h hs
  unfold maxLen at hcm
  go_enter Tryd.func18, Tryd.ntmps18
  by_cases h0 : n = 0
  · have HE : Hid ((⟨(jnL ls n).toArray⟩ : ByteArray) = ⟨#[]⟩) := by rw [Hid, h0]; rfl
    have t0 : ((n : Int) == 0) = true := by simp [h0]
    clear h0
    go_wp2
    go_ret
    exact ⟨by rw [HE.out]; rfl, Below.refl _ _⟩
  · by_cases h1 : n = 1
    · have hl0 : 0 < ls.length := by have := HN.out; omega
      have HE : Hid ((⟨(jnL ls n).toArray⟩ : ByteArray) = ls.getD 0 ByteArray.empty) := by
        rw [Hid, h1, jnL_one ls hl0]
      obtain ⟨b, off, rfl, _, c0⟩ := HA.out.get 0 hl0
      rw [Nat.add_zero] at c0
      have t0 : ((n : Int) == 0) = false := by simp [h0]
      have t1 : ((n : Int) == 1) = true := by simp [h1]
      have hp : 0 < n := by omega
      obtain ⟨y, hy⟩ : ∃ y, ls.getD 0 ByteArray.empty = y := ⟨_, rfl⟩
      rw [hy] at c0 HE
      clear h0 h1 hy
      go_wp2
      go_ret
      exact ⟨by rw [HE.out]; rfl, Below.refl _ _⟩
    · have hp : 2 ≤ n := by omega
      obtain ⟨d, hd⟩ : ∃ d, n - 1 = d := ⟨_, rfl⟩
      have hnd : n = d + 1 := by omega
      have hd1 : 1 ≤ d := by omega
      have hdm : d ≤ 1000 := by omega
      have t0 : ((n : Int) == 0) = false := by simp [h0]
      have t1 : ((n : Int) == 1) = false := by simp; omega
      have v1 : IntKind.i64.wrap ((n : Int) - 1) = (d : Int) := by rw [IntWalk.i64_in _ (by omega)]; omega
      obtain ⟨Q, hQ⟩ : ∃ Q, (9223372036854775807 : Int) / (d : Int) = Q := ⟨_, rfl⟩
      have hQ1 : 9223372036854775 ≤ Q := by
        rw [← hQ]
        exact (Int.le_ediv_iff_mul_le (by omega)).2 (by omega)
      have hQ2 : Q ≤ 9223372036854775807 := by
        rw [← hQ]
        exact Int.ediv_le_self _ (by omega)
      have v2 : (9223372036854775807 : Int).tdiv (d : Int) = Q := by rw [Int.tdiv_eq_ediv_of_nonneg (by omega)]; exact hQ
      have v3 : IntKind.i64.wrap Q = Q := IntWalk.i64_in _ (by omega)
      have v4 : ((d : Int) == 0) = false := by simp; omega
      have v5 : ¬ (d : Int) = 0 := by omega
      have v6 : ¬ Q ≤ 1 := by omega
      have v7 : decide (Q ≤ 1) = false := decide_eq_false v6
      have v8 : IntKind.i64.wrap (d : Int) = (d : Int) := IntWalk.i64_in _ (by omega)
      have HD := Lib.hid hnd
      clear h0 h1 hd hnd
      go_wp2
      clear v1 v2 v3 v4 v5 v6 v7 hQ hQ1 hQ2
      go_loop [5, 7, 41] (fun nv ev iv => ∃ k N : Nat, k ≤ n ∧ iv = .int .i64 (k : Int) ∧ nv = .int .i64 (N : Int) ∧ N ≤ 1000 + 100 * k) (fun _ _ iv => n - (intOf iv).toNat)
      case atStart => exact ⟨0, d, Nat.zero_le _, rfl, rfl, by omega⟩
      case round =>
        obtain ⟨k, N, hk, rfl, rfl, hN⟩ := hrel
        by_cases hlt : k < n
        · have hkl : k < ls.length := by have := HN.out; omega
          obtain ⟨b, off, rfl, _, c0⟩ := HA.out.get k hkl
          have hsz := HS.out k hkl
          obtain ⟨y, hy⟩ : ∃ y, ls.getD k ByteArray.empty = y := ⟨_, rfl⟩
          rw [hy] at c0 hsz
          have w1 : IntKind.i64.wrap (9223372036854775807 - (N : Int)) = 9223372036854775807 - (N : Int) := IntWalk.i64_in _ (by omega)
          have w2 : ¬ 9223372036854775807 - (N : Int) < (y.size : Int) := by omega
          have w3 : decide (9223372036854775807 - (N : Int) < (y.size : Int)) = false := decide_eq_false w2
          have w4 : IntKind.i64.wrap ((N : Int) + (y.size : Int)) = ((N + y.size : Nat) : Int) := by rw [IntWalk.i64_in _ (by omega)]; omega
          clear hy
          go_wp2
          go_round
          case rel => exact ⟨k + 1, N + y.size, by omega, by go_num, rfl, by omega⟩
          case measure => simp [intOf]; omega
        · obtain rfl : k = n := by omega
          have hl0 : 0 < ls.length := by have := HN.out; omega
          obtain ⟨b, off, rfl, hbl, c0⟩ := HA.out.get 0 hl0
          rw [Nat.add_zero] at c0
          have hs0 := HS.out 0 hl0
          have HJ1 := Lib.hid (jnL_one ls hl0)
          obtain ⟨y, hy⟩ : ∃ y, ls.getD 0 ByteArray.empty = y := ⟨_, rfl⟩
          rw [hy] at c0 hs0 HJ1
          have hbk : (w.alloc (.cells #[.pointer none, .slice none 0 0] TB)).heap[w.heap.size]? = some (.cells #[.pointer none, .slice none 0 0] TB (0, 0)) := heap_alloc_new w _
          have hba : Below w.heap.size w (w.alloc (.cells #[.pointer none, .slice none 0 0] TB)) := (Below.refl _ _).alloc (Nat.le_refl _) _
          have HG := Lib.hid (Tryd.Builder_Grow_fresh w.heap.size w.heap.size N _ (Nat.le_refl _) hbk hba.size (by omega))
          have HBA := Lib.hid hba
          clear hbk hba hy
          go_wp2_with fail
          refine HG.out.mono ?_; rintro e w2 ⟨rfl, hbd, hb2⟩
          have HW2 := Lib.hid (HBA.out.trans hb2)
          have HBD2 : Hid (BldW w.heap.size [] w2) := Lib.BuilderAtF.of hbd
          have c2 := (HW2.out.cell (p := ⟨b, off, none⟩) hbl).trans c0
          clear hbd hb2
          have hp0 : 0 < k := by omega
          go_wp2_with fail
          refine (bldW_str w.heap.size [] y _ HBD2.out HW2.out.size (by simp; omega)).mono ?_; rintro e w3 ⟨rfl, hbd, hb3⟩
          have HW3 := Lib.hid (HW2.out.trans hb3)
          have HBD3 : Hid (BldW w.heap.size (jnL ls 1) w3) := by rw [Hid, HJ1.out]; simpa using hbd
          clear hbd hb3 c2
          have v9 : IntKind.i64.wrap ((k : Int) - 1) = (d : Int) := by rw [IntWalk.i64_in _ (by have := HD.out; omega)]; have := HD.out; omega
          have hkc : 1 ≤ k := by omega
          have hkd : k - 1 = d := by have := HD.out; omega
          go_wp2
          go_loopw [10, 65] (fun ev iv wr => ∃ j : Nat, j ≤ d ∧ iv = .int .i64 (j : Int) ∧ BldW w.heap.size (jnL ls (j + 1)) wr ∧ Below w.heap.size w wr) (fun _ iv _ => d - (intOf iv).toNat)
          case atStart => exact ⟨0, Nat.zero_le _, rfl, HBD3.out, HW3.out⟩
          case round =>
            obtain ⟨j, hj, rfl, hbd, hB⟩ := hrel
            have HBD := Lib.hid hbd
            have HW := Lib.hid hB
            by_cases hlt2 : j < d
            · have hjl : j + 1 < ls.length := by have := HN.out; have := HD.out; omega
              obtain ⟨b', off', he, hbl', c5⟩ := HA.out.get (j + 1) hjl
              simp only [Option.some.injEq, Addr.mk.injEq, and_true] at he
              obtain ⟨rfl, rfl⟩ := he
              have hs5 := HS.out (j + 1) hjl
              have HJ5 := Lib.hid (jnL_succ ls (j + 1) (by omega) hjl)
              have hjl5 := HJL.out (j + 1) (by omega)
              obtain ⟨z, hz⟩ : ∃ z, ls.getD (j + 1) ByteArray.empty = z := ⟨_, rfl⟩
              rw [hz] at c5 hs5 HJ5
              have c6 := (hB.cell (p := ⟨b, off + (j + 1), none⟩) hbl).trans c5
              have c7 : wr.cell? ⟨b, off + 1 + j, none⟩ = some (.string z) := by rw [show off + 1 + j = off + (j + 1) by omega]; exact c6
              clear hz hbd hB c5
              go_wp2_with fail
              refine (bldW_str w.heap.size _ ⟨#[44]⟩ _ HBD.out HW.out.size (by show _ + 1 ≤ _; omega)).mono ?_; rintro e w5 ⟨rfl, hbd, hb5⟩
              have HW5 := Lib.hid (HW.out.trans hb5)
              have HBD5 : Hid (BldW w.heap.size (jnL ls (j + 1) ++ [44]) w5) := hbd
              clear hbd hb5 c6 c7
              go_wp2_with fail
              refine (bldW_str w.heap.size _ z _ HBD5.out HW5.out.size (by simp; omega)).mono ?_; rintro e w6 ⟨rfl, hbd, hb6⟩
              have HW6 := Lib.hid (HW5.out.trans hb6)
              have HBD6 := Lib.hid hbd
              clear hbd hb6
              go_wp2
              go_roundw
              case rel => exact ⟨j + 1, by omega, by go_num, by rw [HJ5.out]; exact HBD6.out, HW6.out⟩
              case measure => simp [intOf]; omega
            · have hjd : j + 1 = k := by have := HD.out; omega
              rw [hjd] at HBD
              clear hbd hB
              go_wp2_with (go_at_call 31; refine (Tryd.Builder_String_any_k w.heap.size w.heap.size (jnL ls k) _ (.inr HBD.out) HW.out.size).mono ?_)
              rintro e w7 ⟨rfl, -, hb7, -⟩
              have HW7 := Lib.hid (HW.out.trans hb7)
              clear hb7
              go_wp2
              go_ret
              exact ⟨rfl, HW7.out⟩
end Go.Proofs.YtmhkeiccemfpeaaDoor
