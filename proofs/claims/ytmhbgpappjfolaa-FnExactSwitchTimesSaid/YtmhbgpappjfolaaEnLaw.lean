/- The enables and the output of a switch: the laws' walks. -/
import Derived.Test.YtmhbgpappjfolaaRun
import Derived.Test.YtmhbgpappjfolaaSw1
namespace Go.Proofs.Ytmhbgpappjfolaa
open Go.RowKit Go.Shelf
set_option linter.unusedVariables false

theorem specEn_t (n : Nat) (fi : Bool) (a b c : ByteArray) (w : World) (hn : n ≤ 5) (hs : a.size ≤ maxLen) (hs' : b.size ≤ maxLen) (hs3 : c.size ≤ maxLen) (h : are3B a b c = true) :
    Calls Try.prog 31 #[.agg #[.int .i64 (n : Int), .int .i64 (chI fi)], .string a, .string b, .string c] w fun e w' =>
      e = .returned (.tuple #[.string (outS (en0 n fi a b c) a.size), .string (outS (en1 n fi a b c) a.size), .bool true]) ∧ Below w.heap.size w w' := by
  obtain ⟨F, hF⟩ : ∃ F : Int, chI fi = F := ⟨_, rfl⟩
  have HV : Hid (swOk (n : Int) F = true) := swOk_t ⟨⟨by omega, by omega⟩, by rw [← hF]; cases fi <;> simp [chI], by rw [← hF]; cases fi <;> simp [chI]⟩
  rw [hF]
  obtain ⟨w0, hw0⟩ : ∃ w0, w.alloc (.cells #[.int .i64 (n : Int), .int .i64 F] 36) = w0 := ⟨_, rfl⟩
  have hb0 : Below w.heap.size w w0 := by rw [← hw0]; exact (Below.refl _ _).alloc (Nat.le_refl _) _
  have hs0 : w.heap.size < w0.heap.size := by rw [← hw0]; simp
  have c0 : w0.cell? ⟨w.heap.size, 0, none⟩ = some (.int .i64 (n : Int)) := by rw [← hw0]; simp [go_sem]
  have c1 : w0.cell? ⟨w.heap.size, 1, none⟩ = some (.int .i64 F) := by rw [← hw0]; simp [go_sem]
  have HB0 := Lib.hid hb0
  have HI := Lib.hid (l07Is_any (n : Int) F w.heap.size w0 c0 c1)
  rw [HV.out] at HI
  have HT := Lib.hid (fun m => l07Three_any a b c (w0.drewN m) hs hs' hs3)
  rw [l7B_are3, h] at HT
  have HR := Lib.hid (fun m => l07Run_any w.heap.size n fi a b c (w0.drewN m) hn hs0 c0 (by rw [hF]; exact c1) h)
  clear hb0 c0 c1 h hF
  go_enter Try.func31, Try.ntmps31
  go_wp2_with fail
  refine HI.out.mono ?_; rintro e w1 ⟨rfl, q, rfl⟩
  go_wp2_with fail
  refine (HT.out q).mono ?_; rintro e w1 ⟨rfl, rfl⟩
  go_wp2_with fail
  refine (HR.out q).mono ?_; rintro e w2 ⟨rfl, b2⟩
  have HB2 : Hid (Below w.heap.size w w2) := (show Below w.heap.size w (w0.drewN q) from ⟨HB0.out.os, HB0.out.tape, HB0.out.output, HB0.out.size, HB0.out.block⟩).trans (b2.mono HB0.out.size)
  clear b2 hw0
  go_wp2
  go_ret3
  exact ⟨rfl, HB2.out⟩
theorem specEn_f (n f : Int) (a b c : ByteArray) (w : World) (hs : a.size ≤ maxLen) (hs' : b.size ≤ maxLen) (hs3 : c.size ≤ maxLen) (h : swOk n f = false ∨ are3B a b c = false) :
    Calls Try.prog 31 #[.agg #[.int .i64 n, .int .i64 f], .string a, .string b, .string c] w fun e w' =>
      e = .returned (.tuple #[.string ⟨#[]⟩, .string ⟨#[]⟩, .bool false]) ∧ Below w.heap.size w w' := by
  obtain ⟨w0, hw0⟩ : ∃ w0, w.alloc (.cells #[.int .i64 n, .int .i64 f] 36) = w0 := ⟨_, rfl⟩
  have hb0 : Below w.heap.size w w0 := by rw [← hw0]; exact (Below.refl _ _).alloc (Nat.le_refl _) _
  have c0 : w0.cell? ⟨w.heap.size, 0, none⟩ = some (.int .i64 n) := by rw [← hw0]; simp [go_sem]
  have c1 : w0.cell? ⟨w.heap.size, 1, none⟩ = some (.int .i64 f) := by rw [← hw0]; simp [go_sem]
  have HB0 : Hid (∀ q, Below w.heap.size w (w0.drewN q)) := fun q => ⟨hb0.os, hb0.tape, hb0.output, hb0.size, hb0.block⟩
  have HI := Lib.hid (l07Is_any n f w.heap.size w0 c0 c1)
  have HT := Lib.hid (fun m => l07Three_any a b c (w0.drewN m) hs hs' hs3)
  rw [l7B_are3] at HT
  cases hv : swOk n f with
  | false =>
    rw [hv] at HI
    clear hb0 c0 c1 h hv
    go_enter Try.func31, Try.ntmps31
    go_wp2_with fail
    refine HI.out.mono ?_; rintro e w1 ⟨rfl, q, rfl⟩
    clear hw0
    go_wp2
    go_ret3
    exact ⟨rfl, HB0.out q⟩
  | true =>
    rw [hv] at HI
    have h2 : are3B a b c = false := by rcases h with h | h; · rw [hv] at h; cases h
                                        · exact h
    rw [h2] at HT
    clear hb0 c0 c1 h hv h2
    go_enter Try.func31, Try.ntmps31
    go_wp2_with fail
    refine HI.out.mono ?_; rintro e w1 ⟨rfl, q, rfl⟩
    go_wp2_with fail
    refine (HT.out q).mono ?_; rintro e w1 ⟨rfl, rfl⟩
    clear hw0
    go_wp2
    go_ret3
    exact ⟨rfl, HB0.out q⟩
theorem implEn_f (n f : Int) (a b c : ByteArray) (w : World) (hs : a.size ≤ maxLen) (hs' : b.size ≤ maxLen) (hs3 : c.size ≤ maxLen) (h : swOk n f = false ∨ are3B a b c = false) :
    Calls Try.prog 32 #[.agg #[.int .i64 n, .int .i64 f], .string a, .string b, .string c] w fun e w' =>
      e = .returned (.tuple #[.string ⟨#[]⟩, .string ⟨#[]⟩, .bool false]) ∧ Below w.heap.size w w' := by
  obtain ⟨w0, hw0⟩ : ∃ w0, w.alloc (.cells #[.int .i64 n, .int .i64 f] 36) = w0 := ⟨_, rfl⟩
  have hb0 : Below w.heap.size w w0 := by rw [← hw0]; exact (Below.refl _ _).alloc (Nat.le_refl _) _
  have c0 : w0.cell? ⟨w.heap.size, 0, none⟩ = some (.int .i64 n) := by rw [← hw0]; simp [go_sem]
  have c1 : w0.cell? ⟨w.heap.size, 1, none⟩ = some (.int .i64 f) := by rw [← hw0]; simp [go_sem]
  have HB0 := Lib.hid hb0
  have HI := Lib.hid (implSw_any n f w0)
  cases hv : swOk n f with
  | false =>
    rw [hv] at HI
    clear hb0 h hv
    go_enter Try.func32, Try.ntmps32
    go_wp2_with fail
    refine HI.out.mono ?_; rintro e w1 ⟨rfl, b1⟩
    have HB1 := Lib.hid (HB0.out.trans (b1.mono HB0.out.size))
    clear hw0 b1 c0 c1
    go_wp2
    go_ret3
    exact ⟨rfl, HB1.out⟩
  | true =>
    rw [hv] at HI
    have h2 : are3B a b c = false := by rcases h with h | h; · rw [hv] at h; cases h
                                        · exact h
    have HA := Lib.hid h2
    clear hb0 h hv h2
    go_enter Try.func32, Try.ntmps32
    go_wp2_with fail
    refine HI.out.mono ?_; rintro e w1 ⟨rfl, b1⟩
    have HB1 := Lib.hid (HB0.out.trans (b1.mono HB0.out.size))
    clear hw0 b1 c0 c1
    go_wp2_with fail
    refine (are3_any _ _ a b c _ hs hs' hs3 (by simp) (by simp [go_sem]) (by simp [go_sem]) (by simp [go_sem])).mono ?_
    rw [HA.out]
    rintro e w2 ⟨rfl, b2⟩
    have HB2 := Lib.hid ((HB1.out.alloc HB1.out.size (.cells #[.string a, .string b, .string c] 9)).trans (b2.mono (by have := HB1.out.size; simp; omega)))
    clear b2
    go_wp2
    go_ret3
    exact ⟨rfl, HB2.out⟩
/-- what both sides tell of the enables -/
def EnIs (n f : Int) (a b c r0 r1 : ByteArray) (ok : Bool) : Prop :=
  (∀ w, Calls Try.prog 31 #[.agg #[.int .i64 n, .int .i64 f], .string a, .string b, .string c] w fun e w' => e = .returned (.tuple #[.string r0, .string r1, .bool ok]) ∧ Below w.heap.size w w') ∧
  (∀ w, Calls Try.prog 32 #[.agg #[.int .i64 n, .int .i64 f], .string a, .string b, .string c] w fun e w' => e = .returned (.tuple #[.string r0, .string r1, .bool ok]) ∧ Below w.heap.size w w')
theorem en_both (n f : Int) (a b c : ByteArray) (hs : a.size ≤ maxLen) (hs' : b.size ≤ maxLen) (hs3 : c.size ≤ maxLen) :
    (∃ (m : Nat) (fi : Bool), m ≤ 5 ∧ are3B a b c = true ∧ n = (m : Int) ∧ f = chI fi ∧ EnIs n f a b c (outS (en0 m fi a b c) a.size) (outS (en1 m fi a b c) a.size) true) ∨ EnIs n f a b c ⟨#[]⟩ ⟨#[]⟩ false := by
  cases hv : swOk n f with
  | false => exact Or.inr ⟨fun w => specEn_f n f a b c w hs hs' hs3 (Or.inl hv), fun w => implEn_f n f a b c w hs hs' hs3 (Or.inl hv)⟩
  | true =>
    cases ha : are3B a b c with
    | false => exact Or.inr ⟨fun w => specEn_f n f a b c w hs hs' hs3 (Or.inr ha), fun w => implEn_f n f a b c w hs hs' hs3 (Or.inr ha)⟩
    | true =>
      obtain ⟨⟨h1, h2⟩, h3, h4⟩ := swOk_iff.1 hv
      obtain ⟨m, rfl⟩ : ∃ m : Nat, n = (m : Int) := ⟨n.toNat, by omega⟩
      obtain ⟨fi, rfl⟩ : ∃ fi, f = chI fi := by
        rcases (show f = 0 ∨ f = 1 by omega) with h | h
        · exact ⟨false, h⟩
        · exact ⟨true, h⟩
      exact Or.inl ⟨m, fi, by omega, rfl, rfl, rfl, fun w => specEn_t m fi a b c w (by omega) hs hs' hs3 ha, fun w => implEn_t m fi a b c w (by omega) hs hs' hs3 ha⟩
theorem en_ex (n f : Int) (a b c : ByteArray) (hs : a.size ≤ maxLen) (hs' : b.size ≤ maxLen) (hs3 : c.size ≤ maxLen) : ∃ r0 r1 ok, EnIs n f a b c r0 r1 ok := by
  rcases en_both n f a b c hs hs' hs3 with ⟨m, fi, _, _, _, _, h⟩ | h
  · exact ⟨_, _, _, h⟩
  · exact ⟨_, _, _, h⟩
set_option maxHeartbeats 1000000 in
set_option maxRecDepth 100000 in
theorem walk_FnExactEnablesOf (n f : Int) (a b c : ByteArray) (w : World) (_w0 : (Lit.int .i64 n).wf = true) (_w1 : (Lit.int .i64 f).wf = true) (hs : a.size ≤ maxLen) (hs' : b.size ≤ maxLen) (hs3 : c.size ≤ maxLen) :
    Calls Try.prog 8 #[.agg #[.int .i64 n, .int .i64 f], .string a, .string b, .string c] w fun e w' => e = .returned (.bool true) ∧ Below w.heap.size w w' := by
  by_cases l_a : (a.size : Int) ≤ 1048576
  case neg =>
    go_enter Try.func8, Try.ntmps8
    go_wp2
    go_ret
    exact ⟨rfl, (Below.refl _ _).alloc (Nat.le_refl _) _⟩
  by_cases l_b : (b.size : Int) ≤ 1048576
  case neg =>
    go_enter Try.func8, Try.ntmps8
    go_wp2
    go_ret
    exact ⟨rfl, (Below.refl _ _).alloc (Nat.le_refl _) _⟩
  by_cases l_c : (c.size : Int) ≤ 1048576
  case neg =>
    go_enter Try.func8, Try.ntmps8
    go_wp2
    go_ret
    exact ⟨rfl, (Below.refl _ _).alloc (Nat.le_refl _) _⟩
  obtain ⟨r0, r1, ok, hS, hI⟩ := en_ex n f a b c hs hs' hs3
  have HS := Lib.hid hS
  have HI := Lib.hid hI
  obtain ⟨w0, hw0⟩ : ∃ w0, w.alloc (.cells #[.int .i64 n, .int .i64 f] 34) = w0 := ⟨_, rfl⟩
  have hb0 : Below w.heap.size w w0 := by rw [← hw0]; exact (Below.refl _ _).alloc (Nat.le_refl _) _
  have hs0 : w.heap.size < w0.heap.size := by rw [← hw0]; simp
  have c0 : w0.cell? ⟨w.heap.size, 0, none⟩ = some (.int .i64 n) := by rw [← hw0]; simp [go_sem]
  have c1 : w0.cell? ⟨w.heap.size, 1, none⟩ = some (.int .i64 f) := by rw [← hw0]; simp [go_sem]
  have HB0 := Lib.hid hb0
  have HC := Lib.hid (And.intro c0 c1)
  clear hS hI hb0
  go_enter Try.func8, Try.ntmps8
  go_wp2_with fail
  refine (toSwitch_any n f _).mono ?_; rintro e w1 ⟨rfl, b1⟩
  have HB1 := Lib.hid b1
  clear b1
  go_wp2_with fail
  refine (HS.out _).mono ?_; rintro e w2 ⟨rfl, b2⟩
  have hb2 := HB1.out.trans (b2.mono HB1.out.size)
  have HB2 := Lib.hid hb2
  clear b2 c0 c1 hw0
  have c0 : w2.cell? ⟨w.heap.size, 0, none⟩ = some (.int .i64 n) := (hb2.cell (p := ⟨w.heap.size, 0, none⟩) hs0).trans HC.out.1
  have c1 : w2.cell? ⟨w.heap.size, 1, none⟩ = some (.int .i64 f) := (hb2.cell (p := ⟨w.heap.size, 1, none⟩) hs0).trans HC.out.2
  clear hb2
  go_wp2_with fail
  refine (toSwitch_any n f _).mono ?_; rintro e w3 ⟨rfl, b3⟩
  have HB3 := Lib.hid (HB2.out.trans (b3.mono HB2.out.size))
  clear b3
  go_wp2_with fail
  refine (HI.out _).mono ?_; rintro e w4 ⟨rfl, b4⟩
  have HB4 := Lib.hid (HB0.out.trans ((HB3.out.trans (b4.mono HB3.out.size)).mono HB0.out.size))
  clear b4
  go_wp2
  go_ret
  exact ⟨rfl, HB4.out⟩

/-- the output of a switch -/
def outF (m : Nat) (fi : Bool) (a b c : ByteArray) (k : Nat) : Bool := (bit a k && en0 m fi a b c k) || (bit b k && en1 m fi a b c k)
set_option maxHeartbeats 1000000 in
set_option maxRecDepth 100000 in
theorem specSafe_t (n f : Int) (a b c : ByteArray) (m : Nat) (fi : Bool) (w : World) (ha : are3B a b c = true)
    (h : ∀ w, Calls Try.prog 31 #[.agg #[.int .i64 n, .int .i64 f], .string a, .string b, .string c] w fun e w' => e = .returned (.tuple #[.string (outS (en0 m fi a b c) a.size), .string (outS (en1 m fi a b c) a.size), .bool true]) ∧ Below w.heap.size w w') :
    Calls Try.prog 29 #[.agg #[.int .i64 n, .int .i64 f], .string a, .string b, .string c] w fun e w' => e = .returned (.tuple #[.string (outS (outF m fi a b c) a.size), .bool true]) ∧ Below w.heap.size w w' := by
  obtain ⟨h1, h2, h4, h5, h6⟩ := (are3B_iff a b c).1 ha
  have h400 := wave_le h1
  have HE := Lib.hid h
  obtain ⟨x, hx⟩ : ∃ x, outS (en0 m fi a b c) a.size = x := ⟨_, rfl⟩
  obtain ⟨y, hy⟩ : ∃ x, outS (en1 m fi a b c) a.size = x := ⟨_, rfl⟩
  have sx : x.size = a.size := by rw [← hx, outS_size]
  have sy : y.size = a.size := by rw [← hy, outS_size]
  have HJ0 := Lib.hid (fun w => specJoin_s 0 a x w (by omega) h400 sx)
  have HJ1 := Lib.hid (fun w => specJoin_s 0 b y w (by omega) (by omega) (by omega))
  have HJ2 := Lib.hid (fun w => specJoin_s 1 (outS (fun k => joinZ 0 (bit a k) (bit x k)) a.size) (outS (fun k => joinZ 0 (bit b k) (bit y k)) b.size) w (by omega) (by rw [outS_size]; exact h400) (by rw [outS_size, outS_size]; exact h4))
  have HEQ : Hid (outS (fun k => joinZ 1 (bit (outS (fun k => joinZ 0 (bit a k) (bit x k)) a.size) k) (bit (outS (fun k => joinZ 0 (bit b k) (bit y k)) b.size) k)) (outS (fun k => joinZ 0 (bit a k) (bit x k)) a.size).size = outS (outF m fi a b c) a.size) := by
    show _ = _
    rw [outS_size]
    refine outS_congr (fun k hk => ?_)
    show joinZ 1 (bit (outS _ a.size) k) (bit (outS _ b.size) k) = _
    rw [outS_bit _ _ _ hk, outS_bit _ _ _ (by omega)]
    show joinZ 1 (joinZ 0 (bit a k) (bit x k)) (joinZ 0 (bit b k) (bit y k)) = _
    rw [← hx, ← hy, outS_bit _ _ _ hk, outS_bit _ _ _ hk]
    unfold outF joinZ
    rfl
  obtain ⟨z0, hz0⟩ : ∃ z, outS (fun k => joinZ 0 (bit a k) (bit x k)) a.size = z := ⟨_, rfl⟩
  obtain ⟨z1, hz1⟩ : ∃ z, outS (fun k => joinZ 0 (bit b k) (bit y k)) b.size = z := ⟨_, rfl⟩
  rw [hz0, hz1] at HJ2 HEQ
  have HJ0' : Hid (∀ w, Calls Try.prog 50 #[.int .i64 0, .string a, .string x] w fun e w' => e = .returned (.string z0) ∧ Below w.heap.size w w') := fun w => by rw [← hz0]; exact HJ0.out w
  have HJ1' : Hid (∀ w, Calls Try.prog 50 #[.int .i64 0, .string b, .string y] w fun e w' => e = .returned (.string z1) ∧ Below w.heap.size w w') := fun w => by rw [← hz1]; exact HJ1.out w
  have HJ2' : Hid (∀ w, Calls Try.prog 50 #[.int .i64 1, .string z0, .string z1] w fun e w' => e = .returned (.string (outS (outF m fi a b c) a.size)) ∧ Below w.heap.size w w') := fun w => by rw [← HEQ.out]; exact HJ2.out w
  obtain ⟨r, hr⟩ : ∃ r, outS (outF m fi a b c) a.size = r := ⟨_, rfl⟩
  rw [hr] at HJ2' ⊢
  rw [hx, hy] at HE
  clear h h1 h2 h4 h5 h6 ha hx hy hz0 hz1 hr HJ0 HJ1 HJ2 HEQ sx sy
  go_enter Try.func29, Try.ntmps29
  go_wp2_with fail
  refine (HE.out _).mono ?_; rintro e w1 ⟨rfl, b1⟩
  have HB1 := Lib.hid (((Below.refl w.heap.size w).alloc (Nat.le_refl _) (.cells #[.int .i64 n, .int .i64 f] 36)).trans (b1.mono (by simp)))
  clear b1
  go_wp2_with fail
  refine (HJ0'.out _).mono ?_; rintro e w2 ⟨rfl, b2⟩
  have HB2 := Lib.hid (HB1.out.trans (b2.mono HB1.out.size))
  clear b2
  go_wp2_with fail
  refine (HJ1'.out _).mono ?_; rintro e w3 ⟨rfl, b3⟩
  have HB3 := Lib.hid (HB2.out.trans (b3.mono HB2.out.size))
  clear b3
  go_wp2_with fail
  refine (HJ2'.out _).mono ?_; rintro e w4 ⟨rfl, b4⟩
  have HB4 := Lib.hid (HB3.out.trans (b4.mono HB3.out.size))
  clear b4
  go_wp2
  go_ret2
  exact ⟨rfl, HB4.out⟩
set_option maxHeartbeats 1000000 in
set_option maxRecDepth 100000 in
theorem implSafe_t (n f : Int) (a b c : ByteArray) (m : Nat) (fi : Bool) (w : World) (ha : are3B a b c = true) (hs : a.size ≤ maxLen) (hs' : b.size ≤ maxLen)
    (h : ∀ w, Calls Try.prog 32 #[.agg #[.int .i64 n, .int .i64 f], .string a, .string b, .string c] w fun e w' => e = .returned (.tuple #[.string (outS (en0 m fi a b c) a.size), .string (outS (en1 m fi a b c) a.size), .bool true]) ∧ Below w.heap.size w w') :
    Calls Try.prog 30 #[.agg #[.int .i64 n, .int .i64 f], .string a, .string b, .string c] w fun e w' => e = .returned (.tuple #[.string (outS (outF m fi a b c) a.size), .bool true]) ∧ Below w.heap.size w w' := by
  obtain ⟨h1, h2, h4, h5, h6⟩ := (are3B_iff a b c).1 ha
  have h400 := wave_le h1
  have HE := Lib.hid h
  obtain ⟨x, hx⟩ : ∃ x, outS (en0 m fi a b c) a.size = x := ⟨_, rfl⟩
  obtain ⟨y, hy⟩ : ∃ x, outS (en1 m fi a b c) a.size = x := ⟨_, rfl⟩
  have sx : x.size = a.size := by rw [← hx, outS_size]
  have sy : y.size = a.size := by rw [← hy, outS_size]
  have wx : waveB x.data.toList = true := by rw [← hx]; exact outS_wave _ _ h400
  have wy : waveB y.data.toList = true := by rw [← hy]; exact outS_wave _ _ h400
  have HJ0 : Hid (∀ w, Calls Try.prog 45 #[.string a, .string x] w fun e w' => e = .returned (.tuple #[.string (outS (fun k => joinZ 0 (bit a k) (bit x k)) a.size), .bool true]) ∧ Below w.heap.size w w') := fun w => implGate0 a x w _ _ (fun w => implJoin_s 0 a x w (by omega) (by omega) hs (by unfold maxLen; omega) ((are2B_iff _ _).2 ⟨h1, wx, sx⟩))
  have HJ1 : Hid (∀ w, Calls Try.prog 45 #[.string b, .string y] w fun e w' => e = .returned (.tuple #[.string (outS (fun k => joinZ 0 (bit b k) (bit y k)) b.size), .bool true]) ∧ Below w.heap.size w w') := fun w => implGate0 b y w _ _ (fun w => implJoin_s 0 b y w (by omega) (by omega) hs' (by unfold maxLen; omega) ((are2B_iff _ _).2 ⟨h2, wy, by omega⟩))
  have HJ2 := Lib.hid (fun w => implJoin_s 1 (outS (fun k => joinZ 0 (bit a k) (bit x k)) a.size) (outS (fun k => joinZ 0 (bit b k) (bit y k)) b.size) w (by omega) (by omega) (by rw [outS_size]; exact hs) (by rw [outS_size]; exact hs') ((are2B_iff _ _).2 ⟨outS_wave _ _ h400, outS_wave _ _ (by omega), by rw [outS_size, outS_size]; exact h4⟩))
  have HEQ : Hid (outS (fun k => joinZ 1 (bit (outS (fun k => joinZ 0 (bit a k) (bit x k)) a.size) k) (bit (outS (fun k => joinZ 0 (bit b k) (bit y k)) b.size) k)) (outS (fun k => joinZ 0 (bit a k) (bit x k)) a.size).size = outS (outF m fi a b c) a.size) := by
    show _ = _
    rw [outS_size]
    refine outS_congr (fun k hk => ?_)
    show joinZ 1 (bit (outS _ a.size) k) (bit (outS _ b.size) k) = _
    rw [outS_bit _ _ _ hk, outS_bit _ _ _ (by omega)]
    show joinZ 1 (joinZ 0 (bit a k) (bit x k)) (joinZ 0 (bit b k) (bit y k)) = _
    rw [← hx, ← hy, outS_bit _ _ _ hk, outS_bit _ _ _ hk]
    unfold outF joinZ
    rfl
  obtain ⟨z0, hz0⟩ : ∃ z, outS (fun k => joinZ 0 (bit a k) (bit x k)) a.size = z := ⟨_, rfl⟩
  obtain ⟨z1, hz1⟩ : ∃ z, outS (fun k => joinZ 0 (bit b k) (bit y k)) b.size = z := ⟨_, rfl⟩
  rw [hz0, hz1] at HJ2 HEQ
  rw [hz0] at HJ0
  rw [hz1] at HJ1
  rw [HEQ.out] at HJ2
  obtain ⟨r, hr⟩ : ∃ r, outS (outF m fi a b c) a.size = r := ⟨_, rfl⟩
  rw [hr] at HJ2 ⊢
  rw [hx, hy] at HE
  clear h h1 h2 h4 h5 h6 ha hx hy hz0 hz1 hr HEQ sx sy wx wy
  go_enter Try.func30, Try.ntmps30
  go_wp2_with fail
  refine (HE.out _).mono ?_; rintro e w1 ⟨rfl, b1⟩
  have HB1 := Lib.hid (((Below.refl w.heap.size w).alloc (Nat.le_refl _) (.cells #[.int .i64 n, .int .i64 f] 36)).trans (b1.mono (by simp)))
  have HB1' := Lib.hid b1
  clear b1
  go_wp2_with fail
  refine (HJ0.out _).mono ?_; rintro e w2 ⟨rfl, b2⟩
  have HB2 := Lib.hid (b2)
  clear b2
  go_wp2_with fail
  refine (HJ1.out _).mono ?_; rintro e w3 ⟨rfl, b3⟩
  have HB3 := Lib.hid (HB2.out.trans (b3.mono HB2.out.size))
  clear b3
  go_wp2_with fail
  refine (HJ2.out _).mono ?_; rintro e w4 ⟨rfl, b4⟩
  have HB4 := Lib.hid (HB3.out.trans (b4.mono HB3.out.size))
  clear b4
  go_wp2
  go_ret2
  exact ⟨rfl, by first | exact HB1.out.trans (HB4.out.mono HB1.out.size) | exact HB1'.out.trans (HB4.out.mono HB1'.out.size)⟩
set_option maxHeartbeats 1000000 in
set_option maxRecDepth 100000 in
theorem specSafe_f (n f : Int) (a b c : ByteArray) (w : World)
    (h : ∀ w, Calls Try.prog 31 #[.agg #[.int .i64 n, .int .i64 f], .string a, .string b, .string c] w fun e w' => e = .returned (.tuple #[.string ⟨#[]⟩, .string ⟨#[]⟩, .bool false]) ∧ Below w.heap.size w w') :
    Calls Try.prog 29 #[.agg #[.int .i64 n, .int .i64 f], .string a, .string b, .string c] w fun e w' => e = .returned (.tuple #[.string ⟨#[]⟩, .bool false]) ∧ Below w.heap.size w w' := by
  have HE := Lib.hid h
  clear h
  go_enter Try.func29, Try.ntmps29
  go_wp2_with fail
  refine (HE.out _).mono ?_; rintro e w1 ⟨rfl, b1⟩
  have HB1 := Lib.hid b1
  clear b1
  go_wp2
  go_ret2
  exact ⟨rfl, by first | exact HB1.out | exact ((Below.refl w.heap.size w).alloc (Nat.le_refl _) _).trans (HB1.out.mono (by simp))⟩
set_option maxHeartbeats 1000000 in
set_option maxRecDepth 100000 in
theorem implSafe_f (n f : Int) (a b c : ByteArray) (w : World)
    (h : ∀ w, Calls Try.prog 32 #[.agg #[.int .i64 n, .int .i64 f], .string a, .string b, .string c] w fun e w' => e = .returned (.tuple #[.string ⟨#[]⟩, .string ⟨#[]⟩, .bool false]) ∧ Below w.heap.size w w') :
    Calls Try.prog 30 #[.agg #[.int .i64 n, .int .i64 f], .string a, .string b, .string c] w fun e w' => e = .returned (.tuple #[.string ⟨#[]⟩, .bool false]) ∧ Below w.heap.size w w' := by
  have HE := Lib.hid h
  clear h
  go_enter Try.func30, Try.ntmps30
  go_wp2_with fail
  refine (HE.out _).mono ?_; rintro e w1 ⟨rfl, b1⟩
  have HB1 := Lib.hid b1
  clear b1
  go_wp2
  go_ret2
  exact ⟨rfl, by first | exact HB1.out | exact ((Below.refl w.heap.size w).alloc (Nat.le_refl _) _).trans (HB1.out.mono (by simp))⟩
theorem safe_ex (n f : Int) (a b c : ByteArray) (hs : a.size ≤ maxLen) (hs' : b.size ≤ maxLen) (hs3 : c.size ≤ maxLen) : ∃ r ok,
    (∀ w, Calls Try.prog 29 #[.agg #[.int .i64 n, .int .i64 f], .string a, .string b, .string c] w fun e w' => e = .returned (.tuple #[.string r, .bool ok]) ∧ Below w.heap.size w w') ∧
    (∀ w, Calls Try.prog 30 #[.agg #[.int .i64 n, .int .i64 f], .string a, .string b, .string c] w fun e w' => e = .returned (.tuple #[.string r, .bool ok]) ∧ Below w.heap.size w w') := by
  rcases en_both n f a b c hs hs' hs3 with ⟨m, fi, hm, ha, _, _, h1, h2⟩ | ⟨h1, h2⟩
  · exact ⟨_, _, fun w => specSafe_t n f a b c m fi w ha h1, fun w => implSafe_t n f a b c m fi w ha hs hs' h2⟩
  · exact ⟨_, _, fun w => specSafe_f n f a b c w h1, fun w => implSafe_f n f a b c w h2⟩
set_option maxHeartbeats 1000000 in
set_option maxRecDepth 100000 in
theorem walk_FnExactSafeSwitch (n f : Int) (a b c : ByteArray) (w : World) (_w0 : (Lit.int .i64 n).wf = true) (_w1 : (Lit.int .i64 f).wf = true) (hs : a.size ≤ maxLen) (hs' : b.size ≤ maxLen) (hs3 : c.size ≤ maxLen) :
    Calls Try.prog 7 #[.agg #[.int .i64 n, .int .i64 f], .string a, .string b, .string c] w fun e w' => e = .returned (.bool true) ∧ Below w.heap.size w w' := by
  by_cases l_a : (a.size : Int) ≤ 1048576
  case neg =>
    go_enter Try.func7, Try.ntmps7
    go_wp2
    go_ret
    exact ⟨rfl, (Below.refl _ _).alloc (Nat.le_refl _) _⟩
  by_cases l_b : (b.size : Int) ≤ 1048576
  case neg =>
    go_enter Try.func7, Try.ntmps7
    go_wp2
    go_ret
    exact ⟨rfl, (Below.refl _ _).alloc (Nat.le_refl _) _⟩
  by_cases l_c : (c.size : Int) ≤ 1048576
  case neg =>
    go_enter Try.func7, Try.ntmps7
    go_wp2
    go_ret
    exact ⟨rfl, (Below.refl _ _).alloc (Nat.le_refl _) _⟩
  obtain ⟨r, ok, hS, hI⟩ := safe_ex n f a b c hs hs' hs3
  have HS := Lib.hid hS
  have HI := Lib.hid hI
  obtain ⟨w0, hw0⟩ : ∃ w0, w.alloc (.cells #[.int .i64 n, .int .i64 f] 34) = w0 := ⟨_, rfl⟩
  have hb0 : Below w.heap.size w w0 := by rw [← hw0]; exact (Below.refl _ _).alloc (Nat.le_refl _) _
  have hs0 : w.heap.size < w0.heap.size := by rw [← hw0]; simp
  have c0 : w0.cell? ⟨w.heap.size, 0, none⟩ = some (.int .i64 n) := by rw [← hw0]; simp [go_sem]
  have c1 : w0.cell? ⟨w.heap.size, 1, none⟩ = some (.int .i64 f) := by rw [← hw0]; simp [go_sem]
  have HB0 := Lib.hid hb0
  have HC := Lib.hid (And.intro c0 c1)
  clear hS hI hb0
  go_enter Try.func7, Try.ntmps7
  go_wp2_with fail
  refine (toSwitch_any n f _).mono ?_; rintro e w1 ⟨rfl, b1⟩
  have HB1 := Lib.hid b1
  clear b1
  go_wp2_with fail
  refine (HS.out _).mono ?_; rintro e w2 ⟨rfl, b2⟩
  have hb2 := HB1.out.trans (b2.mono HB1.out.size)
  have HB2 := Lib.hid hb2
  clear b2 c0 c1 hw0
  have c0 : w2.cell? ⟨w.heap.size, 0, none⟩ = some (.int .i64 n) := (hb2.cell (p := ⟨w.heap.size, 0, none⟩) hs0).trans HC.out.1
  have c1 : w2.cell? ⟨w.heap.size, 1, none⟩ = some (.int .i64 f) := (hb2.cell (p := ⟨w.heap.size, 1, none⟩) hs0).trans HC.out.2
  clear hb2
  go_wp2_with fail
  refine (toSwitch_any n f _).mono ?_; rintro e w3 ⟨rfl, b3⟩
  have HB3 := Lib.hid (HB2.out.trans (b3.mono HB2.out.size))
  clear b3
  go_wp2_with fail
  refine (HI.out _).mono ?_; rintro e w4 ⟨rfl, b4⟩
  have HB4 := Lib.hid (HB0.out.trans ((HB3.out.trans (b4.mono HB3.out.size)).mono HB0.out.size))
  clear b4
  go_wp2
  go_ret
  exact ⟨rfl, HB4.out⟩
end Go.Proofs.Ytmhbgpappjfolaa
