/- IsClean's closure: is a pulse none of a row of pulses? And that the row of a wave's pulses is one. -/
import Derived.Test.YtlobloaabghceaaConP
import Derived.Test.YtlobloaabghceaaShort
namespace Go.Proofs.Ytlobloaabghceaa
open Go.RowKit Go.Shelf
set_option linter.unusedVariables false
set_option linter.unusedSimpArgs false

def pulT (n : Int) (us ds : List Int) : List Pul := (List.range us.length).map fun i => (us.getD i 0, (if i < ds.length then ds.getD i 0 else n), decide (ds.length ≤ i))
theorem pulT_len (n : Int) (us ds : List Int) : (pulT n us ds).length = us.length := by simp [pulT]
theorem PulR.pulAt {w : World} {B m cap : Nat} {a : Option Addr} {N : Int} {us ds : List Int} (h : PulR w B (.slice a m cap) N us ds) : PulAt w a (pulT N us ds) := fun j hj => by
  obtain ⟨g, h1, _, h3, h4, h5, h6⟩ := h.at j (by rw [pulT_len] at hj; exact hj)
  exact ⟨g, h1, h3, by simpa [pulT] using h4, by simpa [pulT] using h5, by simpa [pulT] using h6⟩
def matP (x y : Pul) : Bool := matB x.1 x.2.1 x.2.2 y.1 y.2.1 y.2.2
set_option maxHeartbeats 2000000 in
set_option maxRecDepth 100000 in
theorem cleanCl (B : Nat) (a : Option Addr) (n c : Nat) (L : List Pul) (x : Pul) (w : World) (hB : w.cell? ⟨B, 0, none⟩ = some (.slice a n c)) (hBl : B < w.heap.size) (hn : n = L.length) (hbig : n ≤ 1000000) (hc : PulAt w a L) :
    Calls Try.prog 29 #[pulX x, .pointer (some ⟨B, 0, none⟩)] w fun e w' => e = .returned (.bool (!L.any (matP x))) ∧ Below w.heap.size w w' := by
  obtain ⟨x1, x2, x3⟩ := x
  have HC : Hid (∀ W, Below w.heap.size w W → Calls Try.prog 28 #[.slice a n c, .func (.func 30) #[.agg #[.int .i64 x1, .int .i64 x2, .bool x3]] #[]] W fun e w' => e = .returned (.bool (L.any (matP (x1, x2, x3)))) ∧ Below W.heap.size W w') := fun W hW =>
    conPul 30 #[.agg #[.int .i64 x1, .int .i64 x2, .bool x3]] #[] (matP (x1, x2, x3)) (enters_of Try.func30 (by kernel_rfl) rfl) a n c L W
      (fun W2 y hb => (matches_any x1 x2 x3 y.1 y.2.1 y.2.2 W2).mono fun e w' h => ⟨h.1, hb.trans (h.2.mono hb.size)⟩) hn hbig (hc.keep hW)
  dsimp only [pulX]
  clear hn hc
  go_enter Try.func29, Try.ntmps29
  go_wp2_with fail
  refine (HC.out _ ((Below.refl _ _).alloc (Nat.le_refl _) _)).mono ?_
  rintro e w' ⟨rfl, hb⟩
  go_wp2
  go_ret
  exact ⟨rfl, ((Below.refl _ _).alloc (Nat.le_refl _) _).trans (hb.mono (by simp))⟩
end Go.Proofs.Ytlobloaabghceaa
