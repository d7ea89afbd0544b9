/- Contracts of the document's own answers for layer 1, and of 'same' and 'awake'. -/
import Derived.Test.YtkncgpklnfljfaaNumCode
import Derived.Deep.RegionWith
namespace Go.Proofs.Ytkncgpklnfljfaa
open Go.RowKit Go.ChangeShapes NumPure
theorem refAdd_any (a b : Int) (ha : -9223372036854775808 ≤ a ∧ a ≤ 9223372036854775807) (hb : -9223372036854775808 ≤ b ∧ b ≤ 9223372036854775807) (w : World) :
    Calls Try.prog 10 #[.int .i64 a, .int .i64 b] w fun e w' => e = .returned (.agg #[.int .i64 (cut (a + b)), .bool (fitsB (a + b))]) ∧ Below w.heap.size w w' := by
  obtain ⟨ha1, ha2⟩ := ha
  obtain ⟨hb1, hb2⟩ := hb
  by_cases h : -9223372036854775808 ≤ a + b ∧ a + b ≤ 9223372036854775807
  · have e1 := Lib.hid (cut_in h)
    have e2 := Lib.hid ((fits_iff _).2 h)
    obtain ⟨h1, h2⟩ := h
    by_cases h0 : 0 ≤ b
    · go_enter Try.func10, Try.ntmps10
      go_wp2
      refine bodyPost_ret (v := .agg #[.int .i64 (a + b), .bool true]) (by simp [results, Try.results10, go_sem]) rfl ⟨agg_ib e1.out.symm e2.out.symm, (Below.refl _ _).alloc (Nat.le_refl _) _⟩
    · go_enter Try.func10, Try.ntmps10
      go_wp2
      refine bodyPost_ret (v := .agg #[.int .i64 (a + b), .bool true]) (by simp [results, Try.results10, go_sem]) rfl ⟨agg_ib e1.out.symm e2.out.symm, (Below.refl _ _).alloc (Nat.le_refl _) _⟩
  · have e1 := Lib.hid (cut_out h)
    have e2 := Lib.hid ((fits_not _).2 h)
    by_cases h0 : 0 ≤ b
    · have h3 := wrap_add_up a b ha2 h0 hb2 (by omega)
      clear h
      go_enter Try.func10, Try.ntmps10
      go_wp2
      refine bodyPost_ret (v := .agg #[.int .i64 0, .bool false]) (by simp [results, Try.results10, go_sem]) rfl ⟨agg_ib e1.out.symm e2.out.symm, (Below.refl _ _).alloc (Nat.le_refl _) _⟩
    · have h3 := wrap_add_down a b ha1 (by omega) hb1 (by omega)
      clear h
      go_enter Try.func10, Try.ntmps10
      go_wp2
      refine bodyPost_ret (v := .agg #[.int .i64 0, .bool false]) (by simp [results, Try.results10, go_sem]) rfl ⟨agg_ib e1.out.symm e2.out.symm, (Below.refl _ _).alloc (Nat.le_refl _) _⟩
theorem refSub_any (a b : Int) (ha : -9223372036854775808 ≤ a ∧ a ≤ 9223372036854775807) (hb : -9223372036854775808 ≤ b ∧ b ≤ 9223372036854775807) (w : World) :
    Calls Try.prog 11 #[.int .i64 a, .int .i64 b] w fun e w' => e = .returned (.agg #[.int .i64 (cut (a - b)), .bool (fitsB (a - b))]) ∧ Below w.heap.size w w' := by
  obtain ⟨ha1, ha2⟩ := ha
  obtain ⟨hb1, hb2⟩ := hb
  by_cases h : -9223372036854775808 ≤ a - b ∧ a - b ≤ 9223372036854775807
  · have e1 := Lib.hid (cut_in h)
    have e2 := Lib.hid ((fits_iff _).2 h)
    obtain ⟨h1, h2⟩ := h
    by_cases h0 : 0 ≤ b
    · go_enter Try.func11, Try.ntmps11
      go_wp2
      refine bodyPost_ret (v := .agg #[.int .i64 (a - b), .bool true]) (by simp [results, Try.results11, go_sem]) rfl ⟨agg_ib e1.out.symm e2.out.symm, (Below.refl _ _).alloc (Nat.le_refl _) _⟩
    · go_enter Try.func11, Try.ntmps11
      go_wp2
      refine bodyPost_ret (v := .agg #[.int .i64 (a - b), .bool true]) (by simp [results, Try.results11, go_sem]) rfl ⟨agg_ib e1.out.symm e2.out.symm, (Below.refl _ _).alloc (Nat.le_refl _) _⟩
  · have e1 := Lib.hid (cut_out h)
    have e2 := Lib.hid ((fits_not _).2 h)
    by_cases h0 : 0 ≤ b
    · have h3 := wrap_sub_down a b ha1 h0 hb2 (by omega)
      clear h
      go_enter Try.func11, Try.ntmps11
      go_wp2
      refine bodyPost_ret (v := .agg #[.int .i64 0, .bool false]) (by simp [results, Try.results11, go_sem]) rfl ⟨agg_ib e1.out.symm e2.out.symm, (Below.refl _ _).alloc (Nat.le_refl _) _⟩
    · have h3 := wrap_sub_up a b ha2 (by omega) hb1 (by omega)
      clear h
      go_enter Try.func11, Try.ntmps11
      go_wp2
      refine bodyPost_ret (v := .agg #[.int .i64 0, .bool false]) (by simp [results, Try.results11, go_sem]) rfl ⟨agg_ib e1.out.symm e2.out.symm, (Below.refl _ _).alloc (Nat.le_refl _) _⟩
set_option maxHeartbeats 400000 in
theorem refMul_any (a b : Int) (ha : -9223372036854775808 ≤ a ∧ a ≤ 9223372036854775807) (hb : -9223372036854775808 ≤ b ∧ b ≤ 9223372036854775807) (w : World) :
    Calls Try.prog 12 #[.int .i64 a, .int .i64 b] w fun e w' => e = .returned (.agg #[.int .i64 (cut (a * b)), .bool (fitsB (a * b))]) ∧ Below w.heap.size w w' := by
  obtain ⟨ha1, ha2⟩ := ha
  obtain ⟨hb1, hb2⟩ := hb
  by_cases a0 : a = 0
  · subst a0
    go_enter Try.func12, Try.ntmps12
    go_wp2
    refine bodyPost_ret (v := .agg #[.int .i64 0, .bool true]) (by simp [results, Try.results12, go_sem]) rfl ⟨agg_ib (by simp [cut]) (by simp [fitsB]), (Below.refl _ _).alloc (Nat.le_refl _) _⟩
  by_cases b0 : b = 0
  · subst b0
    have ha0 : (a == 0) = false := by simpa using a0
    clear a0
    go_enter Try.func12, Try.ntmps12
    go_wp2
    refine bodyPost_ret (v := .agg #[.int .i64 0, .bool true]) (by simp [results, Try.results12, go_sem]) rfl ⟨agg_ib (by simp [cut]) (by simp [fitsB]), (Below.refl _ _).alloc (Nat.le_refl _) _⟩
  have ha0 : (a == 0) = false := by simpa using a0
  have hb0 : (b == 0) = false := by simpa using b0
  have A0 := Lib.hid a0
  have B0 := Lib.hid b0
  clear a0 b0
  by_cases s1 : a = -1 ∧ b = -9223372036854775808
  · obtain ⟨rfl, rfl⟩ := s1
    clear ha0 hb0
    go_enter Try.func12, Try.ntmps12
    go_wp2
    refine bodyPost_ret (v := .agg #[.int .i64 0, .bool false]) (by simp [results, Try.results12, go_sem]) rfl ⟨agg_ib (by decide) (by decide), (Below.refl _ _).alloc (Nat.le_refl _) _⟩
  by_cases s2 : b = -1 ∧ a = -9223372036854775808
  · obtain ⟨rfl, rfl⟩ := s2
    clear ha0 hb0
    go_enter Try.func12, Try.ntmps12
    go_wp2
    refine bodyPost_ret (v := .agg #[.int .i64 0, .bool false]) (by simp [results, Try.results12, go_sem]) rfl ⟨agg_ib (by decide) (by decide), (Below.refl _ _).alloc (Nat.le_refl _) _⟩
  have B0' := B0.out
  have A0' := A0.out
  have wa := wrap64_in a ⟨ha1, ha2⟩
  have wb := wrap64_in b ⟨hb1, hb2⟩
  have w1 := wrap64_in (-1) (by omega)
  by_cases a1 : a = -1
  · subst a1
    have hbl : b ≠ -9223372036854775808 := fun e => s1 ⟨rfl, e⟩
    have hbl' : (b == -9223372036854775808) = false := by simpa using hbl
    have e1 := Lib.hid (cut_in (n := -1 * b) (by omega))
    have e2 := Lib.hid ((fits_iff (-1 * b)).2 (by omega))
    clear s1 s2 wa ha0 A0'
    go_enter Try.func12, Try.ntmps12
    go_wp2
    all_goals refine bodyPost_ret (v := .agg #[.int .i64 (-b), .bool true]) (by simp [results, Try.results12, go_sem] <;> omega) rfl ⟨agg_ib (by rw [e1.out]; omega) e2.out.symm, (Below.refl _ _).alloc (Nat.le_refl _) _⟩
  by_cases b1 : b = -1
  · subst b1
    have hal : a ≠ -9223372036854775808 := fun e => s2 ⟨rfl, e⟩
    have hal' : (a == -9223372036854775808) = false := by simpa using hal
    have a1' : (a == -1) = false := by simpa using a1
    have e1 := Lib.hid (cut_in (n := a * -1) (by omega))
    have e2 := Lib.hid ((fits_iff (a * -1)).2 (by omega))
    clear s1 s2 wb hb0 B0'
    go_enter Try.func12, Try.ntmps12
    go_wp2
    all_goals refine bodyPost_ret (v := .agg #[.int .i64 (-a), .bool true]) (by simp [results, Try.results12, go_sem] <;> omega) rfl ⟨agg_ib (by rw [e1.out]; omega) e2.out.symm, (Below.refl _ _).alloc (Nat.le_refl _) _⟩
  have a1' : (a == -1) = false := by simpa using a1
  have b1' : (b == -1) = false := by simpa using b1
  have HS := Lib.hid s2
  clear s1 s2
  by_cases h : -9223372036854775808 ≤ a * b ∧ a * b ≤ 9223372036854775807
  · have e1 := Lib.hid (cut_in h)
    have e2 := Lib.hid ((fits_iff _).2 h)
    obtain ⟨h1, h2⟩ := h
    go_enter Try.func12, Try.ntmps12
    go_wp2
    all_goals refine bodyPost_ret (v := .agg #[.int .i64 (a * b), .bool true]) (by simp [results, Try.results12, go_sem]) rfl ⟨agg_ib e1.out.symm e2.out.symm, (Below.refl _ _).alloc (Nat.le_refl _) _⟩
  · have e1 := Lib.hid (cut_out h)
    have e2 := Lib.hid ((fits_not _).2 h)
    have q0 : ¬ wrap64 ((wrap64 (a * b)).tdiv b) = a := quo_out a b ⟨ha1, ha2⟩ ⟨hb1, hb2⟩ B0.out HS.out h
    have q1 : (wrap64 ((wrap64 (a * b)).tdiv b) != a) = true := by simpa using q0
    clear h
    go_enter Try.func12, Try.ntmps12
    go_wp2
    all_goals refine bodyPost_ret (v := .agg #[.int .i64 0, .bool false]) (by simp [results, Try.results12, go_sem]) rfl ⟨agg_ib e1.out.symm e2.out.symm, (Below.refl _ _).alloc (Nat.le_refl _) _⟩
/-- 'same' of what is the same. -/
theorem same_yes (n : Int) (f : Bool) (w : World) :
    Calls Try.prog 9 #[.int .i64 n, .bool f, .agg #[.int .i64 n, .bool f]] w fun e w' => e = .returned (.bool true) ∧ Below w.heap.size w w' := by
  go_enter Try.func9, Try.ntmps9
  go_wp2
  go_ret
  exact ⟨rfl, (Below.refl _ _).alloc (Nat.le_refl _) _⟩
theorem sum123 (w : World) : Calls Try.prog 17 #[.slice (some ⟨w.heap.size, 0, none⟩) 3 3] (w.alloc (.cells #[.int .i64 1, .int .i64 2, .int .i64 3] 2)) fun e w' => e = .returned (.tuple #[.int .i64 6, .bool true]) ∧ Below w.heap.size w w' := by
  have e6 : sumS [1, 2, 3] = (6, true) := by decide
  have h := sum_any (some ⟨w.heap.size, 0, none⟩) 3 [1, 2, 3] (w.alloc (.cells #[.int .i64 1, .int .i64 2, .int .i64 3] 2))
    (by intro i hi; match i, hi with | 0, _ => decide | 1, _ => decide | 2, _ => decide)
    (Or.inr ⟨_, _, rfl, by simp, by intro i hi; match i, hi with | 0, _ => simp | 1, _ => simp | 2, _ => simp⟩) (by simp)
  rw [e6] at h
  exact h.mono fun e w' ⟨h1, h2⟩ => ⟨h1, ((Below.refl _ _).alloc (Nat.le_refl _) _).trans (h2.mono (by simp))⟩
theorem awake_any (w : World) :
    Calls Try.prog 13 #[] w fun e w' => e = .returned (.bool true) ∧ Below w.heap.size w w' := by
  have c7 : cut 7 = 7 := by decide
  have f7 : fitsB 7 = true := by decide
  have fx : fitsB 1208925819614629174706176 = false := by decide
  go_enter Try.func13, Try.ntmps13
  go_wp2_with (first | (go_at_call 6; refine (add_any _ _ (by omega) (by omega) _).mono ?_; rintro e w' ⟨rfl, rfl⟩) | (go_at_call 8; refine (mul_any _ _ (by omega) (by omega) _).mono ?_; rintro e w' ⟨rfl, rfl⟩) | fail)
  refine (sum123 w).mono ?_
  rintro e w1 ⟨rfl, hb⟩
  have HB := Lib.hid hb
  clear hb
  go_wp2
  go_ret
  exact ⟨rfl, HB.out⟩
/-- The document's sum, number by number. -/
def RefAt (M : Nat) (w : World) (p : Int × Bool) : Prop :=
  w.cell? ⟨M, 0, none⟩ = some (.int .i64 p.1) ∧ w.cell? ⟨M, 1, none⟩ = some (.bool p.2) ∧ w.frozen? ⟨M, 0, none⟩ = false ∧ w.frozen? ⟨M, 1, none⟩ = false
theorem RefAt.on {M : Nat} {w w' : World} {p : Int × Bool} (h : RefAt M w p) (hb : Below (M + 1) w w') : RefAt M w' p := by
  obtain ⟨h0, h1, f0, f1⟩ := h
  exact ⟨(hb.cell (by simp)).trans h0, (hb.cell (by simp)).trans h1, (hb.frozen (by simp)).trans f0, (hb.frozen (by simp)).trans f1⟩
theorem RefAt.set {N : Nat} {w : World} {p : Int × Bool} (h : RefAt N w p) (q : Int × Bool) : RefAt N ((w.setCell ⟨N, 0, none⟩ (.int .i64 q.1)).setCell ⟨N, 1, none⟩ (.bool q.2)) q := by
  obtain ⟨h0, h1, f0, f1⟩ := h
  have h1' : (w.setCell ⟨N, 0, none⟩ (.int .i64 q.1)).cell? ⟨N, 1, none⟩ = some (.bool p.2) := (World.cell?_setCell_other w ⟨N, 0, none⟩ ⟨N, 1, none⟩ _ (by simp)).trans h1
  refine ⟨(World.cell?_setCell_other _ ⟨N, 1, none⟩ ⟨N, 0, none⟩ _ (by simp)).trans (World.cell?_setCell_same _ _ _ h0), World.cell?_setCell_same _ _ _ h1', ?_, ?_⟩
  · simpa using f0
  · simpa using f1
theorem RefAt.lt {M : Nat} {w : World} {p : Int × Bool} (h : RefAt M w p) : M < w.heap.size := by
  exact World.block_lt_of_cell? w _ h.1
def RefRel (N : Nat) (w : World) (l : List Int) (k : Nat) (wr : World) : Prop := k ≤ l.length ∧ Below (N + 1) w wr ∧ RefAt (N + 1) wr (sumS (l.take k))
set_option maxHeartbeats 400000 in
theorem refSum_any (a : Option Addr) (cap : Nat) (l : List Int) (w : World) (hr : Rng l) (hl : Reads w.heap.size w a l) (hlen : l.length ≤ 9223372036854775807) :
    Calls Try.prog 14 #[.slice a l.length cap] w fun e w' => e = .returned (.agg #[.int .i64 (sumS l).1, .bool (sumS l).2]) ∧ Below w.heap.size w w' := by
  have hB := ((Below.refl w.heap.size w).alloc (Nat.le_refl _) (.cells #[.int .i64 0, .bool false] 26)).alloc (by simp) (.cells #[.int .i64 0, .bool true] 26)
  have HR := Lib.hid hr; have HL := Lib.hid (hl.on hB); have HB := Lib.hid hB
  have HA : Hid (RefAt (w.heap.size + 1) ((w.alloc (.cells #[.int .i64 0, .bool false] 26)).alloc (.cells #[.int .i64 0, .bool true] 26)) (0, true)) := by
    refine ⟨?_, ?_, ?_, ?_⟩ <;> simp [go_sem]
  have HC : Hid (RefAt w.heap.size ((w.alloc (.cells #[.int .i64 0, .bool false] 26)).alloc (.cells #[.int .i64 0, .bool true] 26)) (0, false)) := by
    refine ⟨?_, ?_, ?_, ?_⟩ <;> simp [go_sem]
  clear hr hl hB
  go_enter Try.func14, Try.ntmps14
  go_wp2
  generalize hN : w.heap.size = N at *
  have HN := Lib.hid hN
  clear hN
  generalize (w.alloc (.cells #[.int .i64 0, .bool false] 26)).alloc (.cells #[.int .i64 0, .bool true] 26) = W0 at *
  go_loopw [4] (fun i wr => ∃ k : Nat, i = .int .i64 k ∧ Hid (RefRel N W0 l k wr)) (fun i _ => l.length - (intOf i).toNat)
  case atStart => exact ⟨0, rfl, ⟨Nat.zero_le _, Below.refl _ _, HA.out⟩⟩
  case round =>
    obtain ⟨k, rfl, HP⟩ := hrel
    have hk1 := HP.out.1
    obtain ⟨a0, a1, f0, f1⟩ := HP.out.2.2
    have hz := HP.out.2.2.lt
    have hcr := RefAt.on HC.out HP.out.2.1
    have HCR := Lib.hid hcr
    obtain ⟨c0, c1, g0, g1⟩ := hcr
    have hB0 := Lib.hid (HB.out.trans (HP.out.2.1.mono (by omega)))
    by_cases hlt : k < l.length
    · obtain ⟨b, off, ha, hbN, hck⟩ := (HL.out.on (HP.out.2.1.mono (by omega))).at hlt
      subst ha
      have hrk := HR.out k hlt
      have hsr := sumS_rng (l.take k)
      generalize hn : l.getD k 0 = n at *
      cases hok : (sumS (l.take k)).2
      · rw [hok] at a1
        have HO := Lib.hid hok
        clear hok hn
        go_wp2
        have hz' : sumS l = (0, false) := sumS_stays l k HO.out
        have hz1 : (sumS (l.take k)).1 = 0 := sumS_zero _ HO.out
        obtain ⟨s0, s1, _, _⟩ := HCR.out.set ((sumS (l.take k)).1, false)
        refine bodyPost_ret (v := .agg #[.int .i64 (sumS (l.take k)).1, .bool false]) (by simp [results, Try.results14, go_sem, s0, s1]) rfl ⟨agg_ib (by rw [hz', hz1]) (by rw [hz']), ?_⟩
        rw [HN.out]
        exact (hB0.out.setCell (Nat.le_refl _) _).setCell (Nat.le_refl _) _
      · rw [hok] at a1
        have HO := Lib.hid hok
        have Hn := Lib.hid hn
        clear hok hn c0 c1 g0 g1
        generalize hs : (sumS (l.take k)).1 = s at *
        have Hs := Lib.hid hs
        clear hs
        go_wp2
        go_region_with (first | (go_at_call 10; refine (refAdd_any _ _ hsr hrk _).mono ?_; rintro e w1 ⟨rfl, hb⟩; have hb2 : Below (N + 2) wr w1 := ((Below.refl _ wr).drew).trans (hb.mono (by simp; omega)); clear hb; have hq := RefAt.on HP.out.2.2 hb2; have hb0 := Lib.hid (HP.out.2.1.trans (hb2.mono (by omega))); have hq1 := Lib.hid hq; obtain ⟨q0, q1, g0, g1⟩ := hq; clear hb2))
        all_goals
          go_wp2
          refine ⟨⟨k + 1, by go_num, ?_⟩, by simp [intOf]; omega⟩
          have hst := hq1.out.set (cut (s + n), fitsB (s + n))
          refine ⟨hlt, (hb0.out.setCell (Nat.le_refl _) _).setCell (Nat.le_refl _) _, ?_⟩
          rw [sumS_take l k hlt, step_ok _ _ HO.out, Hs.out, Hn.out]
          exact hst
    · have hke : k = l.length := by omega
      subst hke
      rw [List.take_length] at a0 a1
      cases hok : (sumS l).2
      · rw [hok] at a1
        have HO := Lib.hid hok
        clear hok
        go_wp2
        obtain ⟨s0, s1, _, _⟩ := HCR.out.set ((sumS l).1, false)
        refine bodyPost_ret (v := .agg #[.int .i64 (sumS l).1, .bool false]) (by simp [results, Try.results14, go_sem, s0, s1]) rfl ⟨agg_ib rfl HO.out.symm, ?_⟩
        rw [HN.out]
        exact (hB0.out.setCell (Nat.le_refl _) _).setCell (Nat.le_refl _) _
      · rw [hok] at a1
        have HO := Lib.hid hok
        clear hok
        go_wp2
        obtain ⟨s0, s1, _, _⟩ := HCR.out.set ((sumS l).1, true)
        refine bodyPost_ret (v := .agg #[.int .i64 (sumS l).1, .bool true]) (by simp [results, Try.results14, go_sem, s0, s1]) rfl ⟨agg_ib rfl HO.out.symm, ?_⟩
        rw [HN.out]
        exact (hB0.out.setCell (Nat.le_refl _) _).setCell (Nat.le_refl _) _
theorem refSum_len (a : Option Addr) (cap n : Nat) (l : List Int) (hn : l.length = n) (w : World) (hr : Rng l) (hl : Reads w.heap.size w a l) (hlen : n ≤ 9223372036854775807) :
    Calls Try.prog 14 #[.slice a n cap] w fun e w' => e = .returned (.agg #[.int .i64 (sumS l).1, .bool (sumS l).2]) ∧ Below w.heap.size w w' := by
  subst hn; exact refSum_any a cap l w hr hl hlen
/-- What holds at the head of round k. -/
def SumRel (N : Nat) (w : World) (l : List Int) (k : Nat) (wr : World) : Prop := k ≤ l.length ∧ Below N w wr ∧ AccAt N wr (sumS (l.take k))
end Go.Proofs.Ytkncgpklnfljfaa
