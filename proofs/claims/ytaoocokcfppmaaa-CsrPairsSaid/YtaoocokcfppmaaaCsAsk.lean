/- Arcs in memory, or nil; contracts of what is asked of them: N, Len, has, Tail, Head, Cap, Out, Back, Edge. -/
import Derived.Test.YtaoocokcfppmaaaNtAsk2
import Derived.Test.YtaoocokcfppmaaaCsRef2
import Derived.Test.YtaoocokcfppmaaaCsPart
import Derived.Laws.BitsAllLaws
namespace Go.Proofs.Ytaoocokcfppmaaa.Cs
open Go.RowKit Go.ChangeShapes EdPure NtPure CsPure
/-- What is read of each vertex's arcs. -/
def PartsR (N : Nat) (w : World) (a : Option Addr) (n : Nat) (M : List Ed) : Prop :=
  n = 0 ∨ ∃ b, a = some ⟨b, 0, none⟩ ∧ b < N ∧ ∀ i, i < n → ∃ q c, w.cell? ⟨b, i, none⟩ = some (.slice q (outE M (i : Int) M.length).length c) ∧ ReadsL encZ N w q (zN (outE M (i : Int) M.length))
theorem PartsR.mono {N N' : Nat} {w : World} {a : Option Addr} {n : Nat} {M : List Ed} (h : PartsR N w a n M) (hN : N ≤ N') : PartsR N' w a n M := by
  rcases h with h | ⟨b, ha, hb, hc⟩
  · exact Or.inl h
  · exact Or.inr ⟨b, ha, Nat.lt_of_lt_of_le hb hN, fun i hi => by obtain ⟨q, c, h2, h3⟩ := hc i hi; exact ⟨q, c, h2, h3.mono hN⟩⟩
theorem PartsR.on {N : Nat} {w w' : World} {a : Option Addr} {n : Nat} {M : List Ed} (h : PartsR N w a n M) (hb : Below N w w') : PartsR N w' a n M := by
  rcases h with h | ⟨b, ha, hN, hc⟩
  · exact Or.inl h
  · exact Or.inr ⟨b, ha, hN, fun i hi => by obtain ⟨q, c, h2, h3⟩ := hc i hi; exact ⟨q, c, (hb.cell (by exact hN)).trans h2, h3.on hb⟩⟩
theorem PartsR.over {N : Nat} {w w' : World} {a : Option Addr} {n : Nat} {M : List Ed} (h : PartsR N w a n M) (hb : Below w.heap.size w w') (hN : N ≤ w.heap.size) : PartsR w'.heap.size w' a n M := ((h.mono hN).on hb).mono hb.size
/-- Arcs in memory, or nil, which has none. -/
def ArcsAt (p : Option Addr) (n : Nat) (M : List Ed) (w : World) : Prop :=
  (p = none ∧ n = 0 ∧ M = []) ∨ ∃ g pe ce pv cv, p = some ⟨g, 0, none⟩ ∧ g < w.heap.size ∧ w.cell? ⟨g, 0, none⟩ = some (.slice pe M.length ce) ∧ w.cell? ⟨g, 1, none⟩ = some (.slice pv n cv) ∧ ReadsE w.heap.size w pe M ∧ PartsR w.heap.size w pv n M
theorem ArcsAt.over {p : Option Addr} {n : Nat} {M : List Ed} {w w' : World} (h : ArcsAt p n M w) (hb : Below w.heap.size w w') : ArcsAt p n M w' := by
  rcases h with h | ⟨g, pe, ce, pv, cv, h1, h2, h3, h4, h5, h6⟩
  · exact Or.inl h
  · exact Or.inr ⟨g, pe, ce, pv, cv, h1, Nat.lt_of_lt_of_le h2 hb.size, (hb.cell (by exact h2)).trans h3, (hb.cell (by exact h2)).trans h4, h5.over hb (Nat.le_refl _), h6.over hb (Nat.le_refl _)⟩
theorem ArcsAt.nil (w : World) : ArcsAt none 0 [] w := Or.inl ⟨rfl, rfl, rfl⟩
theorem ret_b {a b : Bool} (h : a = b) : Ending.returned (.bool a) = .returned (.bool b) := by rw [h]
theorem arcsN_any (p : Option Addr) (n : Nat) (M : List Ed) (w : World) (h : ArcsAt p n M w) :
    Calls Try.prog 8 #[.pointer p] w fun e w' => e = .returned (.int .i64 (n : Int)) ∧ Below w.heap.size w w' := by
  rcases h with ⟨rfl, rfl, rfl⟩ | ⟨g, pe, ce, pv, cv, rfl, h2, h3, h4, h5, h6⟩
  · go_enter Try.func8, Try.ntmps8
    go_wp2
    go_ret
    exact ⟨rfl, Below.refl _ _⟩
  · clear h5 h6
    go_enter Try.func8, Try.ntmps8
    go_wp2
    go_ret
    exact ⟨rfl, Below.refl _ _⟩
theorem arcsLenS_any (p : Option Addr) (n : Nat) (M : List Ed) (hM : M.length ≤ 10000) (w : World) (h : ArcsAt p n M w) :
    Calls Try.prog 9 #[.pointer p] w fun e w' => e = .returned (.int .i64 (2 * (M.length : Int))) ∧ w' = w := by
  rcases h with ⟨rfl, rfl, rfl⟩ | ⟨g, pe, ce, pv, cv, rfl, h2, h3, h4, h5, h6⟩
  · go_enter Try.func9, Try.ntmps9
    go_wp2
    go_ret
    exact ⟨rfl, rfl⟩
  · clear h5 h6
    go_enter Try.func9, Try.ntmps9
    go_wp2
    go_ret
    exact ⟨rfl, rfl⟩
theorem arcsLen_any (p : Option Addr) (n : Nat) (M : List Ed) (hM : M.length ≤ 10000) (w : World) (h : ArcsAt p n M w) :
    Calls Try.prog 9 #[.pointer p] w fun e w' => e = .returned (.int .i64 (2 * (M.length : Int))) ∧ Below w.heap.size w w' := by
  refine (arcsLenS_any p n M hM w h).mono ?_
  rintro e w' ⟨h1, rfl⟩
  exact ⟨h1, Below.refl _ _⟩
theorem xor_one (a : Nat) : a ^^^ 1 = bkN a := by
  have h1 : (a ^^^ 1) / 2 = a / 2 := by rw [Nat.xor_div_two]; simp
  have h2 : (a ^^^ 1) % 2 = (a + 1) % 2 := by
    have h := Nat.xor_mod_two_pow (a := a) (b := 1) (n := 1)
    rw [show (2 : Nat) ^ 1 = 2 from rfl] at h
    rcases Nat.mod_two_eq_zero_or_one a with e | e
    · rw [h, e, show (0 : Nat) ^^^ 1 % 2 = 1 from rfl]; omega
    · rw [h, e, show (1 : Nat) ^^^ 1 % 2 = 0 from rfl]; omega
  unfold bkN
  split <;> omega
theorem i64_xor_one (a : Nat) (ha : a < 9223372036854775808) : bits .xor .i64 (a : Int) 1 = backZ (a : Int) := by
  show IntKind.i64.wrap ((BitVec.ofInt 64 (a : Int) ^^^ BitVec.ofInt 64 (1 : Int)).toNat : Int) = _
  rw [BitVec.toNat_xor, ofInt_u64 a (by omega), show (BitVec.ofInt 64 (1 : Int)).toNat = 1 from rfl, xor_one, back_nat]
  simp only [IntKind.wrap, IntKind.bits, IntKind.signed]
  unfold bkN
  simp
  split <;> omega
theorem back_any (i : Int) (h0 : -9223372036854775808 ≤ i) (h1 : i ≤ 9223372036854775807) (w : World) :
    Calls Try.prog 20 #[.int .i64 i] w fun e w' => e = .returned (.int .i64 (backZ i)) ∧ Below w.heap.size w w' := by
  by_cases hn : i < 0
  · have HV : Hid (backZ i = -1) := Lib.hid (if_pos hn)
    go_enter Try.func20, Try.ntmps20
    go_wp2
    go_ret
    exact ⟨ret_i HV.out.symm, Below.refl _ _⟩
  obtain ⟨k, rfl⟩ : ∃ k : Nat, i = k := ⟨i.toNat, by omega⟩
  have e1 := i64_xor_one k (by omega)
  generalize backZ (k : Int) = b at *
  go_enter Try.func20, Try.ntmps20
  go_wp2
  go_ret
  exact ⟨rfl, Below.refl _ _⟩
theorem edgeNoS_any (i : Int) (h1 : i ≤ 9223372036854775807) (w : World) :
    Calls Try.prog 22 #[.int .i64 i] w fun e w' => e = .returned (.int .i64 (edgeZ i)) ∧ w' = w := by
  by_cases hn : i < 0
  · have HV : Hid (edgeZ i = -1) := Lib.hid (if_pos hn)
    go_enter Try.func22, Try.ntmps22
    go_wp2
    go_ret
    exact ⟨ret_i HV.out.symm, rfl⟩
  · have e1 : i.tdiv 2 = i / 2 := Int.tdiv_eq_ediv_of_nonneg (by omega)
    have HV : Hid (edgeZ i = i / 2) := Lib.hid (if_neg hn)
    have q0 : i / 2 ≤ 9223372036854775807 := by omega
    have q1 : 0 ≤ i / 2 := by omega
    generalize hq : i / 2 = q at *
    clear hq
    go_enter Try.func22, Try.ntmps22
    go_wp2
    go_ret
    exact ⟨ret_i HV.out.symm, rfl⟩
theorem edgeNo_any (i : Int) (_h0 : -9223372036854775808 ≤ i) (h1 : i ≤ 9223372036854775807) (w : World) :
    Calls Try.prog 22 #[.int .i64 i] w fun e w' => e = .returned (.int .i64 (edgeZ i)) ∧ Below w.heap.size w w' := by
  refine (edgeNoS_any i h1 w).mono ?_
  rintro e w' ⟨h1, rfl⟩
  exact ⟨h1, Below.refl _ _⟩
def hasB (M : List Ed) (i : Int) : Bool := decide (0 ≤ i ∧ i < 2 * (M.length : Int))
set_option maxRecDepth 100000 in
theorem has_any (p : Option Addr) (n : Nat) (M : List Ed) (hM : M.length ≤ 10000) (i : Int) (w : World) (h : ArcsAt p n M w) :
    Calls Try.prog 31 #[.pointer p, .int .i64 i] w fun e w' => e = .returned (.bool (hasB M i)) ∧ w' = w := by
  by_cases h0 : 0 ≤ i
  · have HC := Lib.hid (arcsLenS_any p n M hM w h)
    have t0 : decide (0 ≤ i) = true := decide_eq_true h0
    have HV : Hid (hasB M i = decide (i < 2 * (M.length : Int))) := Lib.hid (by unfold hasB; simp [h0])
    clear h
    go_enter Try.func31, Try.ntmps31
    go_wp2_with (first | (go_at_call 9; refine HC.out.mono ?_; rintro e w1 ⟨rfl, rfl⟩))
    go_ret
    exact ⟨ret_b HV.out.symm, rfl⟩
  · have HV : Hid (hasB M i = false) := Lib.hid (decide_eq_false (by omega))
    clear h
    go_enter Try.func31, Try.ntmps31
    go_wp2
    go_ret
    exact ⟨ret_b HV.out.symm, rfl⟩
theorem has_yes {M : List Ed} {k q : Nat} (hq : k / 2 = q) (hh : q < M.length) : hasB M (k : Int) = true := decide_eq_true (by omega)
theorem has_no {M : List Ed} {k q : Nat} (hq : k / 2 = q) (hh : ¬ q < M.length) : hasB M (k : Int) = false := decide_eq_false (by omega)
set_option maxRecDepth 100000 in
set_option maxHeartbeats 1000000 in
theorem arcsTail_any (p : Option Addr) (n : Nat) (M : List Ed) (hM : M.length ≤ 10000) (i : Int) (h0 : -9223372036854775808 ≤ i) (hi : i ≤ 9223372036854775807) (w : World) (h : ArcsAt p n M w) :
    Calls Try.prog 11 #[.pointer p, .int .i64 i] w fun e w' => e = .returned (.int .i64 (tailZ M i)) ∧ Below w.heap.size w w' := by
  have HC := Lib.hid (has_any p n M hM i w h)
  by_cases hb : hasB M i = false
  · have HV : Hid (tailZ M i = -1) := Lib.hid (by
      unfold hasB at hb
      have hb := of_decide_eq_false hb
      by_cases hn : i < 0
      · exact if_pos hn
      · obtain ⟨k, rfl⟩ : ∃ k : Nat, i = k := ⟨i.toNat, by omega⟩
        rw [tail_nat, end_none (by omega)])
    rw [hb] at HC
    clear h hb
    go_enter Try.func11, Try.ntmps11
    go_wp2_with (first | (go_at_call 31; refine HC.out.mono ?_; rintro e w1 ⟨rfl, rfl⟩))
    go_ret
    exact ⟨ret_i HV.out.symm, Below.refl _ _⟩
  have hb := eq_true_of_ne_false hb
  rw [hb] at HC
  have hb := of_decide_eq_true hb
  obtain ⟨k, rfl⟩ : ∃ k : Nat, i = k := ⟨i.toNat, by omega⟩
  obtain ⟨q, hq⟩ : ∃ q : Nat, k / 2 = q := ⟨_, rfl⟩
  have hh : q < M.length := by omega
  have HE := Lib.hid (fun w => edgeNoS_any (k : Int) hi w)
  rw [show edgeZ (k : Int) = (q : Int) by unfold edgeZ; rw [if_neg (by omega)]; omega] at HE
  obtain ⟨u, v, x, he⟩ : ∃ u v x, M[q] = (u, v, x) := ⟨_, _, _, rfl⟩
  have i2 : (q : Int) < (M.length : Int) := by omega
  have i3 : (0 : Int) ≤ (q : Int) := by omega
  rcases h with ⟨rfl, rfl, rfl⟩ | ⟨g, pe, ce, pv, cv, rfl, h2, h3, h4, h5, h6⟩
  · simp at hh
  obtain ⟨b, off, rfl, -, hbr, m0, m1, m2⟩ := h5.cells hh (Below.refl _ _) he
  by_cases hp : k % 2 = 0
  · have e2 : (k : Int).tmod 2 = 0 := by rw [mod_two]; omega
    have HV : Hid (tailZ M (k : Int) = u) := Lib.hid (by rw [tail_nat, end_at (by rw [hq]; exact hh), if_pos hp]; simp only [hq, he])
    clear hp hq he h5 h6
    go_enter Try.func11, Try.ntmps11
    go_wp2_with fail
    refine HC.out.mono ?_
    rintro e w1 ⟨rfl, rfl⟩
    go_upto_region 4 with fail
    go_region_with (refine (HE.out _).mono ?_; rintro e w1 ⟨rfl, rfl⟩)
    all_goals (go_wp2; go_ret; exact ⟨ret_i HV.out.symm, by first | exact (Below.refl _ _).drew | exact Below.refl _ _ | exact (Below.refl _ _).drew.drew⟩)
  · have e2 : (k : Int).tmod 2 = 1 := by rw [mod_two]; omega
    have HV : Hid (tailZ M (k : Int) = v) := Lib.hid (by rw [tail_nat, end_at (by rw [hq]; exact hh), if_neg hp]; simp only [hq, he])
    clear hp hq he h5 h6
    go_enter Try.func11, Try.ntmps11
    go_wp2_with fail
    refine HC.out.mono ?_
    rintro e w1 ⟨rfl, rfl⟩
    go_upto_region 5 with fail
    go_region_with (refine (HE.out _).mono ?_; rintro e w1 ⟨rfl, rfl⟩)
    all_goals (go_wp2; go_ret; exact ⟨ret_i HV.out.symm, by first | exact (Below.refl _ _).drew | exact Below.refl _ _ | exact (Below.refl _ _).drew.drew⟩)
set_option maxRecDepth 100000 in
theorem arcsHead_any (p : Option Addr) (n : Nat) (M : List Ed) (hM : M.length ≤ 10000) (i : Int) (h0 : -9223372036854775808 ≤ i) (hi : i ≤ 9223372036854775807) (w : World) (h : ArcsAt p n M w) :
    Calls Try.prog 12 #[.pointer p, .int .i64 i] w fun e w' => e = .returned (.int .i64 (headZ M i)) ∧ Below w.heap.size w w' := by
  have HC1 := Lib.hid (fun w => back_any i h0 hi w)
  have HC2 := Lib.hid (fun w h => arcsTail_any p n M hM (backZ i) (by unfold backZ; split <;> (try split) <;> omega) (back_top hi) w h)
  have HV : Hid (tailZ M (backZ i) = headZ M i) := Lib.hid rfl
  rw [HV.out] at HC2
  have HA := Lib.hid h
  clear h HV
  generalize backZ i = bi at *
  generalize headZ M i = hz at *
  go_enter Try.func12, Try.ntmps12
  go_wp2_with fail
  refine (HC1.out _).mono ?_
  rintro e w1 ⟨rfl, hb1⟩
  have HB1 := Lib.hid hb1
  replace HA := Lib.hid (HA.out.over hb1)
  clear hb1
  go_wp2_with (first | (go_at_call 11; refine (HC2.out _ HA.out).mono ?_; rintro e w2 ⟨rfl, hb2⟩; have HB2 := Lib.hid (HB1.out.trans (hb2.mono HB1.out.size)); clear hb2))
  go_ret
  exact ⟨rfl, HB2.out⟩
set_option maxRecDepth 100000 in
set_option maxHeartbeats 1000000 in
theorem arcsCap_any (p : Option Addr) (n : Nat) (M : List Ed) (hM : M.length ≤ 10000) (i : Int) (_h0 : -9223372036854775808 ≤ i) (hi : i ≤ 9223372036854775807) (w : World) (h : ArcsAt p n M w) :
    Calls Try.prog 13 #[.pointer p, .int .i64 i] w fun e w' => e = .returned (.int .i64 (capZ M i)) ∧ Below w.heap.size w w' := by
  have HC := Lib.hid (has_any p n M hM i w h)
  by_cases hb : hasB M i = false
  · have HV : Hid (capZ M i = 0) := Lib.hid (by
      unfold hasB at hb
      have hb := of_decide_eq_false hb
      by_cases hn : i < 0
      · exact if_pos hn
      · obtain ⟨k, rfl⟩ : ∃ k : Nat, i = k := ⟨i.toNat, by omega⟩
        rw [cap_nat]
        unfold wtV
        rw [List.getElem?_eq_none (by omega)])
    rw [hb] at HC
    clear h hb
    go_enter Try.func13, Try.ntmps13
    go_wp2_with (first | (go_at_call 31; refine HC.out.mono ?_; rintro e w1 ⟨rfl, rfl⟩))
    go_ret
    exact ⟨ret_i HV.out.symm, Below.refl _ _⟩
  have hb := eq_true_of_ne_false hb
  rw [hb] at HC
  have hb := of_decide_eq_true hb
  obtain ⟨k, rfl⟩ : ∃ k : Nat, i = k := ⟨i.toNat, by omega⟩
  obtain ⟨q, hq⟩ : ∃ q : Nat, k / 2 = q := ⟨_, rfl⟩
  have hh : q < M.length := by omega
  have HE := Lib.hid (fun w => edgeNoS_any (k : Int) hi w)
  rw [show edgeZ (k : Int) = (q : Int) by unfold edgeZ; rw [if_neg (by omega)]; omega] at HE
  obtain ⟨u, v, x, he⟩ : ∃ u v x, M[q] = (u, v, x) := ⟨_, _, _, rfl⟩
  have i2 : (q : Int) < (M.length : Int) := by omega
  have i3 : (0 : Int) ≤ (q : Int) := by omega
  rcases h with ⟨rfl, rfl, rfl⟩ | ⟨g, pe, ce, pv, cv, rfl, h2, h3, h4, h5, h6⟩
  · simp at hh
  obtain ⟨b, off, rfl, -, hbr, m0, m1, m2⟩ := h5.cells hh (Below.refl _ _) he
  have HV : Hid (capZ M (k : Int) = x) := Lib.hid (by rw [cap_nat]; unfold wtV; rw [hq, List.getElem?_eq_getElem hh, he])
  clear hq he h5 h6
  go_enter Try.func13, Try.ntmps13
  go_wp2_with fail
  refine HC.out.mono ?_
  rintro e w1 ⟨rfl, rfl⟩
  go_upto_region 3 with fail
  go_region_with (refine (HE.out _).mono ?_; rintro e w1 ⟨rfl, rfl⟩)
  all_goals (go_wp2; go_ret; exact ⟨ret_i HV.out.symm, by first | exact (Below.refl _ _).drew | exact Below.refl _ _ | exact (Below.refl _ _).drew.drew⟩)
end Go.Proofs.Ytaoocokcfppmaaa.Cs
