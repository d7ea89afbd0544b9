/- Contracts of the document's own answers for layer 2; facts on what is made. -/
import Derived.Test.YtopniihomjakoaaDoorFbitCode
namespace Go.Proofs.YtopniihomjakoaaDoor
open Go.RowKit Go.ChangeShapes FbitPure
theorem refKind_any (b : Nat) (hb : (b : Int) ≤ 18446744073709551615) (w : World) :
    Calls Tryd.prog 17 #[.int .u64 b] w fun e w' => e = .returned (.int .i64 (kindN b)) ∧ w = w' := by
  have e2 := and_e b hb
  have e3 := and_f b hb
  have hk := kind_cases b
  rcases hk with ⟨h1, h2, h3⟩ | ⟨h1, h2, h3⟩ | ⟨h1, h2, h3⟩ | ⟨h1, h2, h3⟩ | ⟨h1, h2, h3⟩
  all_goals
    have h4 := Lib.hid h3
    clear h3
    go_enter Tryd.func17, Tryd.ntmps17
    go_wp2
    go_ret
    exact ⟨ret_i (by rw [h4.out]), rfl⟩
theorem refNeg_any (b : Nat) (hb : (b : Int) ≤ 18446744073709551615) (w : World) :
    Calls Tryd.prog 38 #[.int .u64 b] w fun e w' => e = .returned (.bool (negB b)) ∧ w = w' := by
  have e1 := Lib.hid (show negB b = (topB b && decide (kindN b ≠ 0)) from rfl)
  have t1 : ((b : Int) / 9223372036854775808 == 1) = topB b := by
    unfold topB; rw [Bool.eq_iff_iff]; simp; omega
  by_cases h : kindN b = 0
  · have e3 := Lib.hid h
    go_enter Tryd.func38, Tryd.ntmps38
    go_wp2_with (first | (go_at_call 17; refine (refKind_any _ hb _).mono ?_; rintro e w' ⟨rfl, rfl⟩))
    go_ret
    exact ⟨bool_ret (by rw [e1.out, e3.out]; simp), rfl⟩
  · have e3 := Lib.hid h
    go_enter Tryd.func38, Tryd.ntmps38
    go_wp2_with (first | (go_at_call 17; refine (refKind_any _ hb _).mono ?_; rintro e w' ⟨rfl, rfl⟩))
    go_ret
    exact ⟨bool_ret (by rw [e1.out]; simp [e3.out]), rfl⟩
theorem agg_iib {k l : IntKind} {a b : Bool} {c d m n : Int} (h2 : c = d) (h3 : m = n) (h1 : a = b) : Ending.returned (.agg #[.int k c, .int l m, .bool a]) = .returned (.agg #[.int k d, .int l n, .bool b]) := by rw [h1, h2, h3]
set_option maxHeartbeats 400000 in
theorem refParts_any (b : Nat) (hb : (b : Int) ≤ 18446744073709551615) (w : World) :
    Calls Tryd.prog 25 #[.int .u64 b] w fun e w' => e = .returned (.agg #[.int .u64 (partM b : Int), .int .i64 (partE b), .bool (partOk b)]) ∧ Below w.heap.size w w' := by
  have e2 := and_e b hb
  have e3 := and_f b hb
  rcases kind_cases b with ⟨h1, h2, h3⟩ | ⟨h1, h2, h3⟩ | ⟨h1, h2, h3⟩ | ⟨h1, h2, h3⟩ | ⟨h1, h2, h3⟩
  · have r := Lib.hid (part_none b (by omega))
    clear h1 h2
    go_enter Tryd.func25, Tryd.ntmps25
    go_wp2_with (first | (go_at_call 17; refine (refKind_any _ hb _).mono ?_; rintro e w' ⟨rfl, rfl⟩))
    refine bodyPost_ret (v := .agg #[.int .u64 0, .int .i64 0, .bool false]) (by simp [results, Tryd.results25, go_sem]) rfl ⟨agg_iib (by rw [r.out.1]; rfl) r.out.2.1.symm r.out.2.2.symm, (Below.refl _ _).alloc (Nat.le_refl _) _⟩
  · have r := Lib.hid (part_none b (by omega))
    clear h1 h2
    go_enter Tryd.func25, Tryd.ntmps25
    go_wp2_with (first | (go_at_call 17; refine (refKind_any _ hb _).mono ?_; rintro e w' ⟨rfl, rfl⟩))
    refine bodyPost_ret (v := .agg #[.int .u64 0, .int .i64 0, .bool false]) (by simp [results, Tryd.results25, go_sem]) rfl ⟨agg_iib (by rw [r.out.1]; rfl) r.out.2.1.symm r.out.2.2.symm, (Below.refl _ _).alloc (Nat.le_refl _) _⟩
  · have r := Lib.hid (part_nought b h3)
    clear h1 h2
    go_enter Tryd.func25, Tryd.ntmps25
    go_wp2_with (first | (go_at_call 17; refine (refKind_any _ hb _).mono ?_; rintro e w' ⟨rfl, rfl⟩))
    refine bodyPost_ret (v := .agg #[.int .u64 0, .int .i64 0, .bool true]) (by simp [results, Tryd.results25, go_sem]) rfl ⟨agg_iib (by rw [r.out.1]; rfl) r.out.2.1.symm r.out.2.2.symm, (Below.refl _ _).alloc (Nat.le_refl _) _⟩
  · have r := Lib.hid (part_small b h3 h1)
    have hf := fN_lt b
    have hf0 : fN b ≠ 0 := h2
    clear h1 h2
    have hs : TwoRel (fN b) (-1074) (fN b) (-1074) := TwoRel.start _ hf0 (by omega)
    have HS := Lib.hid hs
    clear hs
    go_enter Tryd.func25, Tryd.ntmps25
    go_wp2_with (first | (go_at_call 17; refine (refKind_any _ hb _).mono ?_; rintro e w' ⟨rfl, rfl⟩))
    go_loop [3, 4] (fun e f => ∃ (n : Nat) (k : Int), Hid (TwoRel (fN b) (-1074) n k) ∧ e = .int .i64 k ∧ f = .int .u64 (n : Int)) (fun _ f => (intOf f).toNat)
    case atStart => exact ⟨_, _, HS, rfl, rfl⟩
    case round =>
      obtain ⟨n, k, HR, rfl, rfl⟩ := hrel
      obtain ⟨n1, n2, -, -, n5, n6⟩ := HR.out
      by_cases hn : n % 2 = 0
      · have t : ((n : Int) % 2 == 0) = true := by simp; omega
        have HN := Lib.hid (HR.out.step hf0 (by omega) hn)
        clear hn
        go_wp2
        go_round
        case rel => exact ⟨n / 2, k + 1, HN, rfl, by go_num⟩
        case measure => simp [intOf]; omega
      · have t : ((n : Int) % 2 == 0) = false := by simp; omega
        have hd := Lib.hid (HR.out.done (by omega))
        clear hn
        go_wp2
        refine bodyPost_ret (v := .agg #[.int .u64 n, .int .i64 k, .bool true]) (by simp [results, Tryd.results25, go_sem]) rfl ⟨agg_iib (by rw [hd.out.1, r.out.1]) (by rw [hd.out.2, r.out.2.1]) r.out.2.2.symm, (Below.refl _ _).alloc (Nat.le_refl _) _⟩
  · have r := Lib.hid (part_normal b h3 h1)
    have hf := fN_lt b
    have hE := eN_lt b
    have hs' : sig b = fN b + 4503599627370496 := if_neg (by omega)
    have hf0 : sig b ≠ 0 := by omega
    have hsl := sig_lt b
    have e4 : (fN b : Int) + 4503599627370496 = (sig b : Int) := by omega
    clear h1 h2 hs'
    have HS := Lib.hid (TwoRel.start (x := sig b) ((eN b : Int) - 1075) hf0 (by omega))
    go_enter Tryd.func25, Tryd.ntmps25
    go_wp2_with (first | (go_at_call 17; refine (refKind_any _ hb _).mono ?_; rintro e w' ⟨rfl, rfl⟩))
    go_loop [3, 4] (fun e f => ∃ (n : Nat) (k : Int), Hid (TwoRel (sig b) ((eN b : Int) - 1075) n k) ∧ e = .int .i64 k ∧ f = .int .u64 (n : Int)) (fun _ f => (intOf f).toNat)
    case atStart => exact ⟨_, _, HS, rfl, rfl⟩
    case round =>
      obtain ⟨n, k, HR, rfl, rfl⟩ := hrel
      obtain ⟨n1, n2, -, -, n5, n6⟩ := HR.out
      by_cases hn : n % 2 = 0
      · have t : ((n : Int) % 2 == 0) = true := by simp; omega
        have HN := Lib.hid (HR.out.step hf0 (by omega) hn)
        clear hn
        go_wp2
        go_round
        case rel => exact ⟨n / 2, k + 1, HN, rfl, by go_num⟩
        case measure => simp [intOf]; omega
      · have t : ((n : Int) % 2 == 0) = false := by simp; omega
        have hd := Lib.hid (HR.out.done (by omega))
        clear hn
        go_wp2
        refine bodyPost_ret (v := .agg #[.int .u64 n, .int .i64 k, .bool true]) (by simp [results, Tryd.results25, go_sem]) rfl ⟨agg_iib (by rw [hd.out.1, r.out.1]) (by rw [hd.out.2, r.out.2.1]; omega) r.out.2.2.1.symm, (Below.refl _ _).alloc (Nat.le_refl _) _⟩
set_option maxHeartbeats 1000000 in
theorem refMake_any (neg : Bool) (m : Nat) (e : Int) (hm : m < 18446744073709551616) (he1 : -9223372036854775808 ≤ e) (he2 : e ≤ 9223372036854775807) (w : World) :
    Calls Tryd.prog 28 #[.bool neg, .int .u64 m, .int .i64 e] w fun en w' => en = .returned (.agg #[.int .u64 (makeW neg m e : Int), .bool (makeOk m e)]) ∧ Below w.heap.size w w' := by
  by_cases h0 : m = 0
  · subst h0
    have r := Lib.hid (make_nought neg e)
    cases neg
    all_goals
      go_enter Tryd.func28, Tryd.ntmps28
      go_wp2
    · refine bodyPost_ret (v := .agg #[.int .u64 0, .bool true]) (by simp [results, Tryd.results28, go_sem]) rfl ⟨agg_ib (by rw [r.out.1]; rfl) r.out.2.symm, (Below.refl _ _).alloc (Nat.le_refl _) _⟩
    · refine bodyPost_ret (v := .agg #[.int .u64 9223372036854775808, .bool true]) (by simp [results, Tryd.results28, go_sem]) rfl ⟨agg_ib (by rw [r.out.1]; rfl) r.out.2.symm, (Below.refl _ _).alloc (Nat.le_refl _) _⟩
  obtain ⟨d1, d2, d3⟩ := od_spec m h0 hm
  have hml := od_lt m
  have hmo : od m < 18446744073709551616 := by omega
  have hm0 : od m ≠ 0 := by omega
  obtain ⟨g1, g2, g3, g4⟩ := bl_spec (od m) hm0 hmo
  have hb53 := Lib.hid (bl_le (od m) 53 hm0 hmo)
  clear d1 d2 g1 g2
  by_cases hlo : e < -3000
  · have r := Lib.hid (make_no neg m e h0 (okN_no _ _ (by omega)))
    cases neg
    all_goals
      go_enter Tryd.func28, Tryd.ntmps28
      go_wp2
      refine bodyPost_ret (v := .agg #[.int .u64 0, .bool false]) (by simp [results, Tryd.results28, go_sem]) rfl ⟨agg_ib (by rw [r.out.1]; rfl) r.out.2.symm, (Below.refl _ _).alloc (Nat.le_refl _) _⟩
  by_cases hhi : 3000 < e
  · have r := Lib.hid (make_no neg m e h0 (okN_no _ _ (by omega)))
    cases neg
    all_goals
      go_enter Tryd.func28, Tryd.ntmps28
      go_wp2
      refine bodyPost_ret (v := .agg #[.int .u64 0, .bool false]) (by simp [results, Tryd.results28, go_sem]) rfl ⟨agg_ib (by rw [r.out.1]; rfl) r.out.2.symm, (Below.refl _ _).alloc (Nat.le_refl _) _⟩
  have HS := Lib.hid (TwoRel.start e h0 hm)
  cases neg
  all_goals
    go_enter Tryd.func28, Tryd.ntmps28
    go_wp2
    go_loop [1, 2] (fun f e' => ∃ (n : Nat) (k : Int), Hid (TwoRel m e n k) ∧ f = .int .u64 (n : Int) ∧ e' = .int .i64 k) (fun f _ => (intOf f).toNat)
    case atStart => exact ⟨_, _, HS, rfl, rfl⟩
    case round =>
      obtain ⟨n, k, HR, rfl, rfl⟩ := hrel
      obtain ⟨n1, n2, -, -, n5, n6⟩ := HR.out
      by_cases hn : n % 2 = 0
      · have t : ((n : Int) % 2 == 0) = true := by simp; omega
        have HN := Lib.hid (HR.out.step h0 hm hn)
        clear hn
        go_wp2
        go_round
        case rel => exact ⟨n / 2, k + 1, HN, by go_num, rfl⟩
        case measure => simp [intOf]; omega
      · have t : ((n : Int) % 2 == 0) = false := by simp; omega
        have hd := Lib.hid (HR.out.done (by omega))
        obtain ⟨g3, g4, hb53⟩ : 1 ≤ bl n ∧ bl n ≤ 64 ∧ Hid (bl n ≤ 53 ↔ n < 2 ^ 53) := by rw [hd.out.1]; exact ⟨g3, g4, hb53⟩
        have hnm : n ≤ m := by rw [hd.out.1]; exact hml
        have hno : ∀ neg, okN n k = false → makeW neg m e = 0 ∧ makeOk m e = false := fun neg h => make_no neg m e h0 (by rw [← hd.out.1, ← hd.out.2]; exact h)
        have hyes : ∀ neg, okN n k = true → makeW neg m e = wordN n k + signW neg ∧ makeOk m e = true := fun neg h => by
          have := make_yes neg m e h0 (by rw [← hd.out.1, ← hd.out.2]; exact h)
          rw [← hd.out.1, ← hd.out.2] at this; exact this
        have HNO := Lib.hid hno
        have HYES := Lib.hid hyes
        have HN1 := Lib.hid n1
        have HN2 := Lib.hid n2
        have z1 : 0 ≤ (n : Int) := by omega
        have z2 : (n : Int) ≤ 18446744073709551615 := by omega
        clear hn HR hno hyes d3 hml hmo hm0 n1 n2 hnm
        generalize hz : (n : Int) = z at *
        have HZ := Lib.hid hz
        clear hz
        by_cases h1 : 9007199254740992 ≤ z
        · have r := Lib.hid (fun neg => HNO.out neg (okN_no _ _ (by have := hb53.out; have := HZ.out; omega)))
          go_wp2
          refine bodyPost_ret (v := .agg #[.int .u64 0, .bool false]) (by simp [results, Tryd.results28, go_sem]) rfl ⟨agg_ib (by rw [(r.out _).1]; rfl) (r.out true).2.symm, (Below.refl _ _).alloc (Nat.le_refl _) _⟩
        by_cases h2 : k < -1074
        · have r := Lib.hid (fun neg => HNO.out neg (okN_no _ _ (by omega)))
          go_wp2
          refine bodyPost_ret (v := .agg #[.int .u64 0, .bool false]) (by simp [results, Tryd.results28, go_sem]) rfl ⟨agg_ib (by rw [(r.out _).1]; rfl) (r.out true).2.symm, (Below.refl _ _).alloc (Nat.le_refl _) _⟩
        have h3 : bl n ≤ 53 := hb53.out.2 (by have := HZ.out; omega)
        have HU : Hid (∃ n' : Nat, z = (n' : Int) ∧ UpRel n k n' k) := Lib.hid ⟨n, HZ.out.symm, UpRel.start n k⟩
        go_wp2
        go_loop [1, 2] (fun f e' => ∃ (z' : Int) (k' : Int), Hid (∃ n' : Nat, z' = (n' : Int) ∧ UpRel n k n' k') ∧ f = .int .u64 z' ∧ e' = .int .i64 k') (fun _ e' => (intOf e' + 1074).toNat)
        case atStart => exact ⟨_, _, HU, rfl, rfl⟩
        case round =>
          obtain ⟨z', k', HR, rfl, rfl⟩ := hrel
          obtain ⟨n', hz', HR'⟩ := HR.out
          obtain ⟨⟨b1, b2, b3⟩, c⟩ := HR'.cases HN1.out HN2.out h3 (by omega)
          have y1 : 0 ≤ z' := by omega
          have y2 : z' < 9007199254740992 := by omega
          rcases c with ⟨c1, c2, c3⟩ | ⟨c1, c2, c3, c4⟩ | ⟨c1, c2, c3, c4⟩
          · have HN : Hid (∃ n' : Nat, z' * 2 = (n' : Int) ∧ UpRel n k n' (k' - 1)) := Lib.hid ⟨n' * 2, by omega, c3⟩
            have y3 : z' < 4503599627370496 := by omega
            clear c3 hz' HR' HR c1 b1
            go_wp2
            go_round
            case rel => exact ⟨z' * 2, k' - 1, HN, rfl, rfl⟩
            case measure => simp [intOf]; omega
          · have y3 : ¬ z' < 4503599627370496 := by omega
            have hw := Lib.hid (word_of c2 c3 b2)
            have HZ' := Lib.hid hz'
            clear hz' HR' HR c1 b1 c2
            have HC3 := Lib.hid c3
            have HC4 := Lib.hid c4
            by_cases h4 : 2046 < k' + 1075
            · have r := Lib.hid (fun neg => HNO.out neg (okN_no _ _ (by omega)))
              clear c3 c4
              go_wp2
              refine bodyPost_ret (v := .agg #[.int .u64 0, .bool false]) (by simp [results, Tryd.results28, go_sem]) rfl ⟨agg_ib (by rw [(r.out _).1]; rfl) (r.out true).2.symm, (Below.refl _ _).alloc (Nat.le_refl _) _⟩
            · have r := Lib.hid (fun neg => HYES.out neg ((okN_iff _ _).2 (by omega)))
              clear c3 c4
              go_wp2
              first | refine bodyPost_ret (v := .agg #[.int .u64 ((k' + 1075) * 4503599627370496 + (z' - 4503599627370496)), .bool true]) (by simp [results, Tryd.results28, go_sem]) rfl ⟨agg_ib (by rw [(r.out _).1]; have := hw.out; have := HZ'.out; have := sign_true; have := sign_false; omega) (r.out true).2.symm, (Below.refl _ _).alloc (Nat.le_refl _) _⟩ | refine bodyPost_ret (v := .agg #[.int .u64 (9223372036854775808 + (k' + 1075) * 4503599627370496 + (z' - 4503599627370496)), .bool true]) (by simp [results, Tryd.results28, go_sem]) rfl ⟨agg_ib (by rw [(r.out _).1]; have := hw.out; have := HZ'.out; have := sign_true; have := sign_false; omega) (r.out true).2.symm, (Below.refl _ _).alloc (Nat.le_refl _) _⟩
          · have y3 : z' < 4503599627370496 := by omega
            have hw := Lib.hid (word_of c3 c4 b2)
            have r := Lib.hid (fun neg => HYES.out neg ((okN_iff _ _).2 (by have : upN n k ≤ 53 - bl n := Nat.min_le_left _ _; omega)))
            have HZ' := Lib.hid hz'
            clear hz' HR' HR c1 b1 c3 c4
            subst c2
            go_wp2
            first | refine bodyPost_ret (v := .agg #[.int .u64 (z'), .bool true]) (by simp [results, Tryd.results28, go_sem]) rfl ⟨agg_ib (by rw [(r.out _).1]; have := hw.out; have := HZ'.out; have := sign_true; have := sign_false; omega) (r.out true).2.symm, (Below.refl _ _).alloc (Nat.le_refl _) _⟩ | refine bodyPost_ret (v := .agg #[.int .u64 (9223372036854775808 + z'), .bool true]) (by simp [results, Tryd.results28, go_sem]) rfl ⟨agg_ib (by rw [(r.out _).1]; have := hw.out; have := HZ'.out; have := sign_true; have := sign_false; omega) (r.out true).2.symm, (Below.refl _ _).alloc (Nat.le_refl _) _⟩
theorem tab_on {g : Nat} {tab : List Nat} {w w' : World} (h : TabAt g tab w) (h0 : 0 < tab.length) (hb : Below w.heap.size w w') : TabAt g tab w' := by
  have hg : g < w.heap.size := World.block_lt_of_cell? w _ (h 0 h0)
  exact fun j hj => (hb.cell (by exact hg)).trans (h j hj)
theorem tab_below {g : Nat} {tab : List Nat} {N : Nat} {w w' : World} (h : TabAt g tab w) (hg : g < N) (hb : Below N w w') : TabAt g tab w' :=
  fun j hj => (hb.cell (by exact hg)).trans (h j hj)
theorem flip_same {P : Program} {f : FuncId} {args : Array Value} {w : World} {v : Value} (h : Calls P f args w fun e w' => e = .returned v ∧ w = w') : Calls P f args w fun e w' => e = .returned v ∧ w' = w :=
  h.mono fun _ _ ⟨h1, h2⟩ => ⟨h1, h2.symm⟩
theorem tab_drewN {g : Nat} {tab : List Nat} {w : World} (h : TabAt g tab w) (n : Nat) : TabAt g tab (w.drewN n) := by
  intro j hj
  have := h j hj
  simpa using this
theorem bitsMake_any (neg : Bool) (m : Nat) (e : Int) (hm : m < 18446744073709551616) (w : World) :
    Calls Tryd.prog 16 #[.float .f64 (makeW neg m e)] w fun en w' => en = .returned (.int .u64 (makeW neg m e : Int)) ∧ w = w' :=
  (bits_any (makeW neg m e) (by have := (make_lt neg m e hm).1; omega) w).mono fun _ _ ⟨h1, h2⟩ => ⟨by rw [h1, (make_lt neg m e hm).2], h2⟩
theorem back_any (b : Nat) (hb : (b : Int) ≤ 18446744073709551615) (h : partOk b = true) (w : World) :
    Calls Tryd.prog 16 #[.float .f64 (makeW (negB b) (partM b) (partE b))] w fun en w' => en = .returned (.int .u64 (b : Int)) ∧ w = w' :=
  (bits_any (makeW (negB b) (partM b) (partE b)) (by have := (make_lt (negB b) (partM b) (partE b) (by have := (part_bounds b).1; omega)).1; omega) w).mono fun _ _ ⟨h1, h2⟩ => ⟨by rw [h1, (back_word b (by omega) h).2], h2⟩
theorem zero_any (m : Nat) (e : Int) (h : makeOk m e = false) (w : World) :
    Calls Tryd.prog 16 #[.float .f64 (makeW false m e)] w fun en w' => en = .returned (.int .u64 0) ∧ w = w' := by
  rw [make_false m e h]
  exact (bits_any 0 (by decide) w).mono fun _ _ ⟨h1, h2⟩ => ⟨by rw [h1, show bitsN 0 = 0 from by decide +kernel]; rfl, h2⟩
theorem made_any (m : Nat) (e : Int) (hm : m < 18446744073709551616) (w : World) (hT : TabAt 1 Lib.deBruijn64tab w) :
    Calls Tryd.prog 47 #[.float .f64 (makeW false m e)] w fun en w' => en = .returned (.tuple #[.int .u64 (partM (makeW false m e) : Int), .int .i64 (partE (makeW false m e)), .bool (partOk (makeW false m e))]) ∧ w = w' :=
  parts_any _ (by have := (make_lt false m e hm).1; omega) w hT
end Go.Proofs.YtopniihomjakoaaDoor
