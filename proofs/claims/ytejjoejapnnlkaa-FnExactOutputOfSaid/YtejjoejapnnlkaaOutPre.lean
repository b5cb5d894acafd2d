/- The wave of a counter's bit, on both sides. -/
import Derived.Test.YtejjoejapnnlkaaVCtr
import Derived.Test.YtejjoejapnnlkaaBits
import Derived.Test.YtejjoejapnnlkaaBytes
import Derived.Test.YtejjoejapnnlkaaBuilder
import Derived.Test.YtejjoejapnnlkaaKept
import Derived.IntWalk
import Derived.WalkSmall
namespace Go.Proofs.Ytejjoejapnnlkaa
open Go.RowKit
set_option linter.unusedVariables false

theorem levelOf_o (b : Bool) (w : World) :
    Calls Try.prog 70 #[.bool b] w fun e w' => e = .returned (.int .i32 (if b then 49 else 48)) ∧ w = w' := by
  cases b
  all_goals
    go_enter Try.func70, Try.ntmps70
    go_wp2
    go_ret
    exact ⟨rfl, rfl⟩
theorem builder_below {T e : TypeId} {B b : Nat} {bs : List Value} {w w' : World} (h : Lib.IsBuilderF T e B b bs w) (hb : Below w.heap.size w w') : Lib.IsBuilderF T e B b bs w' := by
  have go : ∀ p, Lib.BuilderAtF T e B b p bs w → Lib.BuilderAtF T e B b p bs w' := by
    intro p hp
    have hlt := hp.lt
    obtain ⟨hB, v, hh, hown, hne⟩ := hp
    exact ⟨hB, v, (hb.block b hlt).trans hh, hown.kept (row := none) ⟨hb.os, hb.tape, hb.output, hb.size, fun j hj _ => hb.block j hj⟩ (by cases hv : v.ownBlock <;> simp), hne⟩
  exact h.elim (fun x => .inl (go _ x)) (fun x => .inr (go _ x))
theorem builder_lto {T e : TypeId} {B b : Nat} {bs : List Value} {w : World} (h : Lib.IsBuilderF T e B b bs w) : b < w.heap.size := h.elim (fun x => x.lt) (fun x => x.lt)
theorem bytes_oneo (L : List UInt8) (c : UInt8) : Lib.byteCells (L ++ [c]) = Lib.byteCells L ++ [.int .u8 (c.toNat : Int)] := by simp [Lib.byteCells]

def bitC (x y : Nat) : UInt8 := if x / 2 ^ y % 2 = 1 then 49 else 48
def outL (l : List Int) (y : Nat) : Nat → Nat → List UInt8
  | _, 0 => []
  | x, t + 1 => bitC x y :: outL l y (l.getD x 0).toNat t
theorem outL_step (l : List Int) (y x k T : Nat) (L R : List UInt8) (hk : k < T) (h : L ++ outL l y x (T - k) = R) : (L ++ [bitC x y]) ++ outL l y (l.getD x 0).toNat (T - (k + 1)) = R := by
  rw [← h, show T - k = (T - (k + 1)) + 1 from by omega, outL]; simp
theorem outL_over (l : List Int) (y x k T : Nat) (L R : List UInt8) (hk : ¬ k < T) (h : L ++ outL l y x (T - k) = R) : L = R := by
  rw [← h, show T - k = 0 from by omega, outL]; simp
theorem st_lt (l : List Int) (b : Int) (h : ctrB b l = true) (x : Nat) (hx : x < l.length) : ∃ y : Nat, l[x] = (y : Int) ∧ (l.getD x 0).toNat = y ∧ y < l.length ∧ y < 256 := by
  unfold ctrB at h
  simp only [Bool.and_eq_true, decide_eq_true_eq] at h
  obtain ⟨⟨⟨h1, h2⟩, h3⟩, h4⟩ := h
  have h5 := List.all_eq_true.1 h4 l[x] (List.getElem_mem hx)
  unfold stB at h5
  rw [decide_eq_true_eq] at h5
  have h6 := (st_bd b h1 h2).2
  obtain ⟨y, hy⟩ := Int.eq_ofNat_of_zero_le h5.1
  refine ⟨y, hy, ?_, by omega, by omega⟩
  rw [List.getD_eq_getElem?_getD, List.getElem?_eq_getElem hx]
  simp [hy]
theorem ctr_pt (l : List Int) (b : Int) (h : ctrB b l = true) : 1 ≤ b ∧ b ≤ 8 ∧ (l.length : Int) = st b ∧ l.length ≤ 256 := by
  unfold ctrB at h
  simp only [Bool.and_eq_true, decide_eq_true_eq] at h
  obtain ⟨⟨⟨h1, h2⟩, h3⟩, h4⟩ := h
  have h6 := (st_bd b h1 h2).2
  exact ⟨h1, h2, h3, by omega⟩
theorem bit_hit (x y : Nat) (hx : x < 256) (h : x / 2 ^ y % 2 = 1) : bits .and .i64 ((x : Int) / 2 ^ y) 1 = 1 ∧ bitC x y = 49 := by
  have e : ((x : Int) / 2 ^ y) = ((x / 2 ^ y : Nat) : Int) := by simp
  have hd : x / 2 ^ y ≤ x := Nat.div_le_self _ _
  refine ⟨?_, by unfold bitC; rw [if_pos h]⟩
  rw [e, show (1 : Int) = ((1 : Nat) : Int) from rfl, and_i64 _ _ (by omega) (by omega), Nat.and_one_is_mod, h]
theorem bit_miss (x y : Nat) (hx : x < 256) (h : ¬ x / 2 ^ y % 2 = 1) : bits .and .i64 ((x : Int) / 2 ^ y) 1 = 0 ∧ bitC x y = 48 := by
  have e : ((x : Int) / 2 ^ y) = ((x / 2 ^ y : Nat) : Int) := by simp
  have hd : x / 2 ^ y ≤ x := Nat.div_le_self _ _
  refine ⟨?_, by unfold bitC; rw [if_neg h]⟩
  rw [e, show (1 : Int) = ((1 : Nat) : Int) from rfl, and_i64 _ _ (by omega) (by omega), Nat.and_one_is_mod, show x / 2 ^ y % 2 = 0 from by omega]; rfl

def atB (b : Int) (l : List Int) (x : Int) : Bool := ctrB b l && stB b x
theorem l02At_any (p : Nat) (b x : Int) (a : Option Addr) (n cap : Nat) (l : List Int) (w : World) (hn : n = l.length) (hl : n ≤ 1048576) (hp : At2 w p (.int .i64 b) (.slice a n cap)) (hr : RowOf w a l) :
    Calls Try.prog 66 #[.pointer (some ⟨p, 0, none⟩), .int .i64 x] w fun e w' => e = .returned (.bool (atB b l x)) ∧ ∃ q, w' = w.drewN q := by
  have HI := Lib.hid (l02Is_any p b a n cap l w hn hl hp hr)
  obtain ⟨c0, c1, _, _⟩ := hp
  clear hr hn hl
  cases hc : ctrB b l with
  | false =>
    rw [show atB b l x = false from by unfold atB; rw [hc]; rfl]
    rw [hc] at HI
    go_enter Try.func66, Try.ntmps66
    go_wp2_with fail
    refine HI.out.mono ?_; rintro e w' ⟨rfl, q, rfl⟩
    go_wp2
    go_ret
    exact ⟨rfl, q, rfl⟩
  | true =>
    obtain ⟨h1, h2, h3, h4⟩ := ctr_pt l b hc
    rw [show atB b l x = stB b x from by unfold atB; rw [hc]; rfl]
    rw [hc] at HI
    by_cases hs : StateOk b x
    · rw [show stB b x = true from decide_eq_true ⟨hs.2.2.1, hs.2.2.2⟩]
      have HS := Lib.hid hs
      clear hs h3 hc
      go_enter Try.func66, Try.ntmps66
      go_wp2_with fail
      refine HI.out.mono ?_; rintro e w' ⟨rfl, q, rfl⟩
      go_wp2_with fail
      refine (l02State_t _ _ _ HS.out).mono ?_; rintro e w' ⟨rfl, rfl⟩
      go_wp2
      go_ret
      exact ⟨rfl, q, rfl⟩
    · rw [show stB b x = false from decide_eq_false fun h => hs ⟨h1, h2, h.1, h.2⟩]
      have HS := Lib.hid hs
      clear hs h3 hc
      go_enter Try.func66, Try.ntmps66
      go_wp2_with fail
      refine HI.out.mono ?_; rintro e w' ⟨rfl, q, rfl⟩
      go_wp2_with fail
      refine (l02State_f _ _ _ HS.out).mono ?_; rintro e w' ⟨rfl, rfl⟩
      go_wp2
      go_ret
      exact ⟨rfl, q, rfl⟩

theorem row_alloc {w : World} {a : Option Addr} {l : List Int} (hr : RowOf w a l) (hlt : ∀ g, a = some ⟨g, 0, none⟩ → g < w.heap.size) {w' : World} {N : Nat} (hb : Below N w w') (hN : w.heap.size ≤ N) : RowOf w' a l := fun k hk => by
  obtain ⟨g, h1, h2⟩ := hr k hk
  exact ⟨g, h1, (hb.cell (p := ⟨g, k, none⟩) (Nat.lt_of_lt_of_le (hlt g h1) hN)).trans h2⟩

theorem has_any (b x : Int) (a : Option Addr) (n cap : Nat) (l : List Int) (w : World) (hn : n = l.length) (hl : n ≤ 1048576) (hr : RowOf w a l) (hlt : ∀ g, a = some ⟨g, 0, none⟩ → g < w.heap.size) :
    Calls Try.prog 68 #[.agg #[.int .i64 b, .slice a n cap], .int .i64 x] w fun e w' => e = .returned (.bool (atB b l x)) ∧ Below w.heap.size w w' := by
  have hb0 : Below w.heap.size w (w.alloc (.cells #[.int .i64 b, .slice a n cap] 58)) := (Below.refl _ _).alloc (Nat.le_refl _) _
  have HI := Lib.hid (implValidCtr b a n cap l (w.alloc (.cells #[.int .i64 b, .slice a n cap] 58)) hn hl (row_alloc hr hlt hb0 (Nat.le_refl _)) (fun g e => Nat.lt_of_lt_of_le (hlt g e) hb0.size))
  clear hr hn hl hlt hb0
  cases hc : ctrB b l with
  | false =>
    rw [show atB b l x = false from by unfold atB; rw [hc]; rfl]
    rw [hc] at HI
    go_enter Try.func68, Try.ntmps68
    go_wp2_with fail
    refine HI.out.mono ?_; rintro e w1 ⟨rfl, hb1⟩
    go_wp2
    go_ret
    exact ⟨rfl, ((Below.refl _ _).alloc (Nat.le_refl _) _).trans (hb1.mono (by simp))⟩
  | true =>
    obtain ⟨h1, h2, h3, h4⟩ := ctr_pt l b hc
    rw [show atB b l x = stB b x from by unfold atB; rw [hc]; rfl]
    rw [hc] at HI
    by_cases hs : StateOk b x
    · rw [show stB b x = true from decide_eq_true ⟨hs.2.2.1, hs.2.2.2⟩]
      have HS := Lib.hid hs
      clear hs h3 hc
      go_enter Try.func68, Try.ntmps68
      go_wp2_with fail
      refine HI.out.mono ?_; rintro e w1 ⟨rfl, hb1⟩
      obtain ⟨hcc, hf⟩ := bcell hb1
      go_wp2_with fail
      refine (has_t _ _ _ HS.out).mono ?_; rintro e w' ⟨rfl, rfl⟩
      go_wp2
      go_ret
      exact ⟨rfl, ((Below.refl _ _).alloc (Nat.le_refl _) _).trans (hb1.mono (by simp))⟩
    · rw [show stB b x = false from decide_eq_false fun h => hs ⟨h1, h2, h.1, h.2⟩]
      have HS := Lib.hid hs
      clear hs h3 hc
      go_enter Try.func68, Try.ntmps68
      go_wp2_with fail
      refine HI.out.mono ?_; rintro e w1 ⟨rfl, hb1⟩
      obtain ⟨hcc, hf⟩ := bcell hb1
      go_wp2_with fail
      refine (has_f _ _ _ HS.out).mono ?_; rintro e w' ⟨rfl, rfl⟩
      go_wp2
      go_ret
      exact ⟨rfl, ((Below.refl _ _).alloc (Nat.le_refl _) _).trans (hb1.mono (by simp))⟩

theorem after_any (b z : Int) (g n cap x : Nat) (w : World) (hx : x < n) (hn : n ≤ 256) (hg : g < w.heap.size) (hc : w.cell? ⟨g, x, none⟩ = some (.int .i64 z)) :
    Calls Try.prog 71 #[.agg #[.int .i64 b, .slice (some ⟨g, 0, none⟩) n cap], .int .i64 (x : Int)] w fun e w' => e = .returned (.int .i64 z) ∧ Below w.heap.size w w' := by
  have hc2 := cell_alloc_kept (o := .cells #[.int .i64 b, .slice (some ⟨g, 0, none⟩) n cap] 58) hc
  clear hc
  go_enter Try.func71, Try.ntmps71
  go_wp2
  go_ret
  exact ⟨rfl, (Below.refl _ _).alloc (Nat.le_refl _) _⟩
end Go.Proofs.Ytejjoejapnnlkaa
