/- slices.Clone of a row of wires. -/
import Derived.Test.YtlobloaabghceaaMoved
namespace Go.Proofs.Ytlobloaabghceaa
open Go.RowKit Go.Shelf
set_option linter.unusedVariables false
set_option linter.unusedSimpArgs false
set_option maxHeartbeats 1000000 in
set_option maxRecDepth 100000 in
theorem cloneW (B : Nat) (wa : Option Addr) (wn wc : Nat) (F : List Int) (w : World) (h : Recs w B (.slice wa wn wc) wn F) (hl : wn ≤ 1048576) :
    Calls Try.prog 40 #[.slice wa wn wc] w fun e w' => ∃ v, e = .returned v ∧ Recs w' w.heap.size v wn F ∧ Below w.heap.size w w' := by
  obtain ⟨i0, hi, hz0, hz1, hz2⟩ := info_parts info_rec
  have q22 : ∀ (w : World) (a : Option Addr) (n c n' c' : Nat), (binOp .eql 29 (.slice a n c) (.slice none n' c')).run Try.prog w = .ok (.bool a.isNone) w := fun w a n c n' c' => Lib.run_eql_slice_nil w _ _ a n c n' c' Try.underlying29
  have hF := h.1
  have hrow := h.2
  rcases h.2.2 with ⟨hv, hn⟩ | ⟨g, cap, cur, hv, -⟩
  · simp only [Value.slice.injEq] at hv
    obtain ⟨rfl, rfl, rfl⟩ := hv
    have : F = [] := List.length_eq_zero_iff.1 (by omega)
    subst this
    clear h hrow
    go_enter Try.func40, Try.ntmps40
    go_wp2
    go_ret
    exact ⟨_, rfl, ⟨rfl, World.ownsRow_nil _ _ _ _⟩, Below.refl _ _⟩
  · simp only [Value.slice.injEq] at hv
    obtain ⟨rfl, -, rfl⟩ := hv
    have hnews : ∀ (j : Nat) (u : Value), (F.map (Value.int .i64))[j]? = some u → (w.alloc (.cells #[] 62)).cell? (Addr.add ⟨g, 0, none⟩ j) = some u := fun j u hj =>
      cell_alloc_kept (World.ownsRow.cells hrow rfl j u hj)
    have HNEWS := Lib.hid hnews
    have HF := Lib.hid hF
    have HL0 : Hid ((w.alloc (.cells #[] 62)).ownsRow w.heap.size 62 3 (.slice (some ⟨w.heap.size, 0, none⟩) 0 0) 0 []) := World.ownsRow_lit w #[] 0 (Nat.le_refl _) (Nat.zero_le _) rfl
    clear hnews h hrow hF
    go_enter Try.func40, Try.ntmps40
    go_wp2_with (at_builtin; go_loud (refine wpList_append_own _ rfl _ _ 29 rfl w.heap.size 62 i0 (.agg #[.int .i64 0, .int .i64 0, .int .i64 0]) 3 24 Try.underlying29 hi hz0 hz1 hz2 rfl (by decide) _ _ _ rfl HL0.out ⟨g, 0, none⟩ wn wc (F.map (Value.int .i64)) rfl ?c1 ?c2 ?c3 ?c4 ?c5 ?c6 ?_))
    case c1 => rw [List.length_map, HF.out]
    case c2 => exact HNEWS.out
    case c3 => intro u hu; obtain ⟨x, _, rfl⟩ := List.mem_map.1 hu; rfl
    case c4 => unfold maxLen; omega
    case c5 => omega
    case c6 => first | omega | (simp; done) | (simp; omega)
    intro v1 w1 hown1 hgrow1 _
    go_wp2
    go_ret
    refine ⟨_, rfl, ⟨HF.out, ?_⟩, ?_⟩
    · simpa using hown1
    · exact ((Below.refl _ _).alloc (Nat.le_refl _) _).grown hgrow1 (by simp) (fun j e => (World.ownsRow.lt HL0.out j e).1)
end Go.Proofs.Ytlobloaabghceaa
