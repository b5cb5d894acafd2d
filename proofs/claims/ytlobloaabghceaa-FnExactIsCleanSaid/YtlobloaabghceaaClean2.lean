/- IsClean: both sides' words are one. -/
import Derived.Test.YtlobloaabghceaaClean
import Derived.Test.YtlobloaabghceaaCleanC
import Derived.Test.YtlobloaabghceaaCatP
namespace Go.Proofs.Ytlobloaabghceaa
open Go.RowKit Go.Shelf
set_option linter.unusedVariables false
set_option linter.unusedSimpArgs false

theorem hasP_pt (N : Int) (us ds : List Int) (u e : Int) (o : Bool) (hbal : us.length = ds.length ∨ us.length = ds.length + 1) (hds : ∀ i, i < ds.length → ds.getD i 0 < N) (ho : o = true ↔ e = N) (i : Nat) (hi : i < us.length) :
    hasB N u e us (endsL N us ds) i = matP (u, e, o) (us.getD i 0, (if i < ds.length then ds.getD i 0 else N), decide (ds.length ≤ i)) := by
  unfold hasB matP matB
  rw [endsL_getD _ _ _ i hi hbal]
  dsimp only
  by_cases hd : i < ds.length
  · rw [if_pos hd, decide_eq_false (by omega : ¬ ds.length ≤ i)]
    have h1 := hds i hd
    generalize us.getD i 0 = x at *
    generalize ds.getD i 0 = y at *
    rw [Bool.eq_iff_iff]
    cases o
    · have h2 : ¬ e = N := fun h => by have := ho.2 h; cases this
      simp
      omega
    · have h2 : e = N := ho.1 rfl
      simp
      omega
  · rw [if_neg hd, decide_eq_true (by omega : ds.length ≤ i)]
    generalize us.getD i 0 = x at *
    rw [Bool.eq_iff_iff]
    cases o
    · have h2 : ¬ e = N := fun h => by have := ho.2 h; cases this
      simp
      omega
    · have h2 : e = N := ho.1 rfl
      simp
      omega
theorem hasP_any (N : Int) (us ds : List Int) (u e : Int) (o : Bool) (hbal : us.length = ds.length ∨ us.length = ds.length + 1) (hds : ∀ i, i < ds.length → ds.getD i 0 < N) (ho : o = true ↔ e = N) :
    hasL N u e us (endsL N us ds) = (pulT N us ds).any (matP (u, e, o)) := by
  unfold hasL pulT
  rw [List.any_map, Bool.eq_iff_iff, List.any_eq_true, List.any_eq_true]
  constructor
  · rintro ⟨i, hi, h⟩; exact ⟨i, hi, by rw [hasP_pt N us ds u e o hbal hds ho i (List.mem_range.1 hi)] at h; exact h⟩
  · rintro ⟨i, hi, h⟩; exact ⟨i, hi, by rw [hasP_pt N us ds u e o hbal hds ho i (List.mem_range.1 hi)]; exact h⟩
def dsL (s : ByteArray) : List Int := edgesL 48 s.data.toList s.size
theorem wv_bal (s : ByteArray) (hw : waveB s.data.toList = true) : (usL s).length = (dsL s).length ∨ (usL s).length = (dsL s).length + 1 := by
  rcases edges_turn s (wave_all hw) s.size (Nat.le_refl _) with h | h
  · exact .inl h.2
  · exact .inr h.2
theorem wv_lt (s : ByteArray) : ∀ i, i < (dsL s).length → (dsL s).getD i 0 < (s.size : Int) := fun i h => (edgesL_getD 48 s.data.toList s.size i h).2
def pulS (s : ByteArray) : List Pul := pulT (s.size : Int) (usL s) (dsL s)
def cleanV (s a b : ByteArray) : Bool := !((pulS s).any fun p => !((pulS a ++ pulS b).any (matP p)))
theorem clean_val (s a b : ByteArray) (hw : waveB s.data.toList = true) (hwa : waveB a.data.toList = true) (hwb : waveB b.data.toList = true) (ha : a.size = s.size) (hb : b.size = s.size) :
    (List.range (usL s).length).all (cleanB s a b) = cleanV s a b := by
  have key : ∀ i, i < (usL s).length → cleanB s a b i = (pulS a ++ pulS b).any (matP ((usL s).getD i 0, (if i < (dsL s).length then (dsL s).getD i 0 else (s.size : Int)), decide ((dsL s).length ≤ i))) := by
    intro i hi
    have he : (esL s).getD i 0 = if i < (dsL s).length then (dsL s).getD i 0 else (s.size : Int) := endsL_getD _ _ _ i hi (wv_bal s hw)
    have ho : decide ((dsL s).length ≤ i) = true ↔ (if i < (dsL s).length then (dsL s).getD i 0 else (s.size : Int)) = (s.size : Int) := by
      have := wv_lt s i
      rw [decide_eq_true_eq]
      split
      · rename_i h; have := this h; omega
      · omega
    unfold cleanB hasW
    rw [he, List.any_append]
    have e1 := hasP_any (s.size : Int) (usL a) (dsL a) ((usL s).getD i 0) _ _ (wv_bal a hwa) (by rw [← ha]; exact wv_lt a) ho
    have e2 := hasP_any (s.size : Int) (usL b) (dsL b) ((usL s).getD i 0) _ _ (wv_bal b hwb) (by rw [← hb]; exact wv_lt b) ho
    have ea : esL a = endsL (s.size : Int) (usL a) (dsL a) := by rw [← ha]; rfl
    have eb : esL b = endsL (s.size : Int) (usL b) (dsL b) := by rw [← hb]; rfl
    unfold pulS
    rw [ea, eb, ha, hb, ← e1, ← e2]
  unfold cleanV
  rw [List.not_any_eq_all_not]
  conv => rhs; unfold pulS
  unfold pulT
  rw [List.all_map, Bool.eq_iff_iff, List.all_eq_true, List.all_eq_true]
  constructor
  · intro h i hi
    have h1 := h i hi
    rw [key i (List.mem_range.1 hi)] at h1
    simpa [Function.comp, pulS, pulT] using h1
  · intro h i hi
    have h1 := h i hi
    rw [key i (List.mem_range.1 hi)]
    simpa [Function.comp, pulS, pulT] using h1

def flatP (L : List Pul) : List Value := L.flatMap fun x => [.int .i64 x.1, .int .i64 x.2.1, .bool x.2.2]
theorem flatP_get : ∀ (L : List Pul) (j : Nat) (h : j < L.length), (flatP L)[j * 3]? = some (.int .i64 L[j].1) ∧ (flatP L)[j * 3 + 1]? = some (.int .i64 L[j].2.1) ∧ (flatP L)[j * 3 + 2]? = some (.bool L[j].2.2)
  | [], _, h => absurd h (Nat.not_lt_zero _)
  | x :: L, 0, _ => by simp [flatP]
  | x :: L, j + 1, h => by
    have ih := flatP_get L j (by simpa using h)
    have e : ∀ k, (flatP (x :: L))[(j + 1) * 3 + k]? = (flatP L)[j * 3 + k]? := fun k => by
      rw [show (j + 1) * 3 + k = (j * 3 + k) + 3 by omega]
      simp [flatP]
    have e0 := e 0
    simp only [Nat.add_zero] at e0
    rw [e0, e 1, e 2]
    simpa using ih
theorem pulT_cons1 (n u : Int) (us : List Int) : pulT n (u :: us) [] = (u, n, true) :: pulT n us [] := by
  unfold pulT
  simp [List.range_succ_eq_map, Function.comp_def]
theorem pulT_cons2 (n u d : Int) (us ds : List Int) : pulT n (u :: us) (d :: ds) = (u, d, false) :: pulT n us ds := by
  unfold pulT
  simp [List.range_succ_eq_map, Function.comp_def]
theorem pulV_flat (n : Int) : ∀ us ds, pulV n us ds = flatP (pulT n us ds)
  | [], _ => rfl
  | u :: us, [] => by rw [pulT_cons1]; show _ :: _ :: _ :: pulV n us [] = _; rw [pulV_flat n us []]; rfl
  | u :: us, d :: ds => by rw [pulT_cons2]; show _ :: _ :: _ :: pulV n us ds = _; rw [pulV_flat n us ds]; rfl
theorem flatP_one (L : List Pul) : ∀ u ∈ flatP L, u.oneCell' = true := by
  intro u hu
  unfold flatP at hu
  simp only [List.mem_flatMap, List.mem_cons, List.not_mem_nil, or_false] at hu
  obtain ⟨x, -, rfl | rfl | rfl⟩ := hu <;> rfl
theorem addP (g k : Nat) : (⟨g, 0, none⟩ : Addr).add k = ⟨g, k, none⟩ := by
  unfold Addr.add
  split
  · rename_i h; subst h; rfl
  · simp
theorem flatP_pulAt {w : World} {B n cap : Nat} {a : Option Addr} {L : List Pul} (h : w.ownsRow B 48 3 (.slice a n cap) n (flatP L)) (hn : n = L.length) : PulAt w a L := fun j hj => by
  have h' := h
  rcases h.2 with ⟨h0, h1⟩ | ⟨g, cap', cur, hv, -⟩
  · omega
  · simp only [Value.slice.injEq] at hv
    obtain ⟨rfl, -, rfl⟩ := hv
    obtain ⟨g1, g2, g3⟩ := flatP_get L j hj
    have c1 := World.ownsRow.cells h' rfl (j * 3) _ g1
    have c2 := World.ownsRow.cells h' rfl (j * 3 + 1) _ g2
    have c3 := World.ownsRow.cells h' rfl (j * 3 + 2) _ g3
    rw [addP] at c1 c2 c3
    exact ⟨g, rfl, World.block_lt_of_cell? w _ c1, c1, c2, c3⟩
end Go.Proofs.Ytlobloaabghceaa
