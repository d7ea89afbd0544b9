/- What is ahead of what is ahead of something is ahead of it, and a sorted list of floats that is sorted again stays. Conditions: none: every three words of 64 bits. -/
import Derived.Test.YtbebnhadgbkepaaRows
import Derived.WalkKit
import Derived.ProofKit
import Derived.OpenShut
import Derived.ShutString
import Derived.Deep.Cut
import Derived.Deep.DeepFit
import Derived.Test.YtbebnhadgbkepaaForderAwake
namespace Go.Proofs.Ytbebnhadgbkepaa
open Go.RowKit FbitPure ForderPure
open Go.Sort hiding Below
theorem pk_unk {l : List Nat} (h : Wide l) {k : Nat} (hk : k ∈ sk l) : pk (unk k) = k ∧ unk k ≤ 18446744073709551615 ∧ bitsN (unk k) = unk k := by
  have : k ∈ keysOf l := (List.mergeSort_perm _ _).mem_iff.1 hk
  obtain ⟨b, hb, rfl⟩ := List.mem_map.1 this
  rw [wide_iff] at h
  rw [unk_pk (h b hb)]
  exact ⟨pk_bits b, bits_le (h b hb), bits_bits b⟩
/-- The floats of l, rising. -/
def sf (l : List Nat) : List Nat := (sk l).map unk
theorem len_sf (l : List Nat) : (sf l).length = l.length := by unfold sf; rw [List.length_map, len_sk]
theorem sf_wide {l : List Nat} (h : Wide l) : Wide (sf l) := by
  rw [wide_iff]
  intro x hx
  obtain ⟨k, hk, rfl⟩ := List.mem_map.1 hx
  exact (pk_unk h hk).2.1
theorem keys_sf {l : List Nat} (h : Wide l) : keysOf (sf l) = sk l := by
  unfold keysOf sf
  rw [List.map_map]
  exact (List.map_congr_left (g := id) fun k hk => (pk_unk h hk).1).trans (List.map_id _)
theorem sk_sf {l : List Nat} (h : Wide l) : sk (sf l) = sk l := by
  show (keysOf (sf l)).mergeSort _ = _
  rw [keys_sf h]
  exact List.mergeSort_of_pairwise (List.pairwise_mergeSort (fun a b c h1 h2 => by unfold ltB at *; simp at *; omega) (fun a b => by unfold ltB; simp; omega) _)
theorem sf_sf {l : List Nat} (h : Wide l) : sf (sf l) = sf l := by
  show (sk (sf l)).map unk = _
  rw [sk_sf h]
  rfl
theorem sf_key {l : List Nat} (h : Wide l) {i : Nat} (hi : i < l.length) : pk ((sf l).getD i 0) = (sk l).getD i 0 := by
  have hi' : i < (sk l).length := by rw [len_sk]; exact hi
  have e : (sf l).getD i 0 = unk ((sk l).getD i 0) := by
    unfold sf
    simp [List.getD_eq_getElem?_getD, hi']
  rw [e]
  refine (pk_unk h ?_).1
  rw [List.getD_eq_getElem?_getD, List.getElem?_eq_getElem hi']
  exact List.getElem_mem hi'
theorem sf_rises {l : List Nat} (h : Wide l) {i j : Nat} (hij : i < j) (hj : j < l.length) : ltB (pk ((sf l).getD j 0)) (pk ((sf l).getD i 0)) = false := by
  rw [sf_key h hj, sf_key h (by omega)]
  have := sk_sorted l i j (Nat.zero_le _) hij (by rw [len_sk]; exact hj)
  rwa [get_toArray, get_toArray] at this
theorem sf_bits {l : List Nat} (h : Wide l) {i : Nat} (hi : i < l.length) : bitsN ((sf l).getD i 0) = (sf l).getD i 0 := by
  have hi' : i < (sk l).length := by rw [len_sk]; exact hi
  have e : (sf l).getD i 0 = unk ((sk l).getD i 0) := by
    unfold sf
    simp [List.getD_eq_getElem?_getD, hi']
  rw [e]
  refine (pk_unk h ?_).2.2
  rw [List.getD_eq_getElem?_getD, List.getElem?_eq_getElem hi']
  exact List.getElem_mem hi'
theorem best_stays {ks : Nat → Nat} {n : Nat} (h : ∀ j, 0 < j → j < n → ltB (ks j) (ks 0) = false) : ∀ k, k < n → bestGo ltB ks (k + 1) = (0, ks 0)
  | 0, _ => by simp [bestGo]
  | k + 1, hk => best_no (best_stays h k (by omega)) (by omega) (h (k + 1) (by omega) hk)
theorem best_sf {l : List Nat} (h : Wide l) (h0 : 0 < l.length) : bestL ltB (sf l) = 0 := by
  unfold bestL
  have := best_stays (ks := fun i => pk ((sf l).getD i 0)) (n := l.length) (fun j hj hjn => sf_rises h hj hjn) (l.length - 1) (by omega)
  rw [show l.length - 1 + 1 = l.length by omega] at this
  rw [len_sf, this]
end Go.Proofs.Ytbebnhadgbkepaa
namespace Go.Proofs.Ytbebnhadgbkepaa.forderGoes
open Go.ChangeShapes Go.WideShapes Go.ChangeAt Go.RowKit FbitPure ForderPure
open Go.ChangeMaps (open_string shut_string)
set_option linter.unusedVariables false      -- a walk need not use every 'w<i>' (that an integer argument fits its kind)

theorem own : ownKnob Try.prog.godebug = none := by kernel_rfl
set_option maxHeartbeats 1000000 in
set_option maxRecDepth 100000 in
theorem walk_nat (a b c : Nat) (ha : (a : Int) ≤ 18446744073709551615) (hb : (b : Int) ≤ 18446744073709551615) (hc : (c : Int) ≤ 18446744073709551615) (w : World) :
    Calls Try.prog 5 #[.int .u64 a, .int .u64 b, .int .u64 c] w fun e w' => e = .returned (.bool true) ∧ Below w.heap.size w w' := by
  have hW : Wide [a, b, c] := wide_iff.2 (by simp; omega)
  have HW := Lib.hid hW
  go_enter Try.func5, Try.ntmps5
  go_upto_region 2 with (first | (go_at_call 6; refine (of_any _ _).mono ?_; rintro e w' ⟨rfl, rfl⟩) | fail)
  go_cut [7, 8, 9, 47] from 13 (fun x y z d wx => x = .float .f64 a ∧ y = .float .f64 b ∧ z = .float .f64 c ∧ d = .bool false ∧ wx = w)
  case first =>
    have C1 := Lib.hid (fless_any a b ha hb)
    have C2 := Lib.hid (fless_any b c hb hc)
    have C3 := Lib.hid (fless_any a c ha hc)
    have C4 := Lib.hid (cmp_any a b ha hb)
    have C5 := Lib.hid (cmp_any b c hb hc)
    have C6 := Lib.hid (cmp_any a c ha hc)
    generalize pk a = p at *
    generalize pk b = q at *
    generalize pk c = r at *
    have h4 : (p < q ∧ q < r) ∨ (p < q ∧ ¬ q < r) ∨ p = q ∨ q < p := by omega
    rcases h4 with ⟨h, h'⟩ | ⟨h, h'⟩ | h | h
    · have e1 : ltB p q = true := decide_eq_true h
      have e2 : ltB q r = true := decide_eq_true h'
      have e3 : ltB p r = true := decide_eq_true (Nat.lt_trans h h')
      have e4 : cmpN p q = -1 := cmp_lt h
      rw [e1] at C1; rw [e2] at C2; rw [e3] at C3; rw [e4] at C4
      clear h h' e1 e2 e3 e4
      go_wp2_with (first
        | (go_at_call 9; first | (go_fit (C1.out _); rintro e w' ⟨rfl, rfl⟩) | (go_fit (C2.out _); rintro e w' ⟨rfl, rfl⟩) | (go_fit (C3.out _); rintro e w' ⟨rfl, rfl⟩))
        | (go_at_call 7; (go_fit (C4.out _); rintro e w' ⟨rfl, rfl⟩)))
      go_meet
      case rel => exact ⟨rfl, rfl, rfl, rfl, rfl⟩
    · have e1 : ltB p q = true := decide_eq_true h
      have e2 : ltB q r = false := decide_eq_false h'
      have e4 : cmpN p q = -1 := cmp_lt h
      rw [e1] at C1; rw [e2] at C2; rw [e4] at C4
      clear h h' e1 e2 e4
      go_wp2_with (first
        | (go_at_call 9; first | (go_fit (C1.out _); rintro e w' ⟨rfl, rfl⟩) | (go_fit (C2.out _); rintro e w' ⟨rfl, rfl⟩))
        | (go_at_call 7; (go_fit (C4.out _); rintro e w' ⟨rfl, rfl⟩)))
      go_meet
      case rel => exact ⟨rfl, rfl, rfl, rfl, rfl⟩
    · subst h
      have e1 : ltB p p = false := decide_eq_false (Nat.lt_irrefl _)
      have e4 : cmpN p p = 0 := cmp_eq rfl
      rw [e1] at C1; rw [e4] at C4
      generalize cmpN p r = n at *
      clear e1 e4
      go_wp2_with (first
        | (go_at_call 9; (go_fit (C1.out _); rintro e w' ⟨rfl, rfl⟩))
        | (go_at_call 7; first | (go_fit (C4.out _); rintro e w' ⟨rfl, rfl⟩) | (go_fit (C5.out _); rintro e w' ⟨rfl, rfl⟩) | (go_fit (C6.out _); rintro e w' ⟨rfl, rfl⟩)))
      go_meet
      case rel => exact ⟨rfl, rfl, rfl, rfl, rfl⟩
    · have e1 : ltB p q = false := decide_eq_false (by omega)
      have e4 : cmpN p q = 1 := cmp_gt h
      rw [e1] at C1; rw [e4] at C4
      clear h e1 e4
      go_wp2_with (first
        | (go_at_call 9; (go_fit (C1.out _); rintro e w' ⟨rfl, rfl⟩))
        | (go_at_call 7; (go_fit (C4.out _); rintro e w' ⟨rfl, rfl⟩)))
      go_meet
      case rel => exact ⟨rfl, rfl, rfl, rfl, rfl⟩
  case rest =>
    obtain ⟨rfl, rfl, rfl, rfl, rfl⟩ := hcut
    go_wp2_with fail
    have hB0 := (Below.refl wc.heap.size wc).alloc (Nat.le_refl _) (.cells #[.float .f64 a, .float .f64 b, .float .f64 c] 23)
    have hR0 : ReadsE encF (wc.alloc (.cells #[.float .f64 a, .float .f64 b, .float .f64 c] 23)).heap.size (wc.alloc (.cells #[.float .f64 a, .float .f64 b, .float .f64 c] 23)) (some ⟨wc.heap.size, 0, none⟩) [a, b, c] := by
      refine Or.inr ⟨wc.heap.size, 0, rfl, by simp, fun i hi => ?_⟩
      rw [World.cell?_alloc_at _ _ _ _ rfl]
      have : i = 0 ∨ i = 1 ∨ i = 2 := by simp at hi; omega
      rcases this with rfl | rfl | rfl <;> rfl
    have hN0 : (wc.alloc (.cells #[.float .f64 a, .float .f64 b, .float .f64 c] 23)).heap.size = wc.heap.size + 1 := by simp
    generalize (wc.alloc (.cells #[.float .f64 a, .float .f64 b, .float .f64 c] 23)) = W0 at *
    have hl3 : [a, b, c].length = 3 := rfl
    generalize [a, b, c] = l at *
    have c1 := fsort_any 12 sort_12 (by decide) (some ⟨wc.heap.size, 0, none⟩) 3 l W0 HW.out hR0 (by omega)
    rw [hl3] at c1
    refine c1.mono ?_
    rintro e w1 ⟨rfl, hb1, hR1⟩
    have c2 := fsort_any 12 sort_12 (by decide) (some ⟨W0.heap.size, 0, none⟩) 3 (sf l) w1 (sf_wide HW.out) hR1 (by rw [len_sf]; omega)
    rw [len_sf, hl3] at c2
    have C2 := Lib.hid c2
    have HB1 := Lib.hid (hB0.trans (hb1.mono (by omega)))
    have HR1 := Lib.hid hR1
    have HZ1 : Hid (wc.heap.size ≤ w1.heap.size) := by have := hb1.size; show _ ≤ _; omega
    clear hN0
    clear c1 c2 hb1 hR1 hR0 hB0
    go_wp2_with fail
    go_fit C2.out
    rintro e w2 ⟨rfl, hb2, hR2⟩
    have hS1 : sf (sf l) = sf l := sf_sf HW.out
    change ReadsE encF w2.heap.size w2 _ (sf (sf l)) at hR2
    rw [hS1] at hR2
    have hR1' : ReadsE encF w2.heap.size w2 (some ⟨W0.heap.size, 0, none⟩) (sf l) := (HR1.out.on hb2).mono hb2.size
    have hLe := least_any (some ⟨W0.heap.size, 0, none⟩) 3 (sf l)
    rw [len_sf, hl3, best_sf HW.out (by omega)] at hLe
    have hb' : ∀ i, i < 3 → bitsN ((sf l).getD i 0) = (sf l).getD i 0 := fun i hi => sf_bits HW.out (by omega)
    have hw' : Wide (sf l) := sf_wide HW.out
    have hl' : ∀ i, 0 < i → i < 3 → ltB (pk ((sf l).getD i 0)) (pk ((sf l).getD (i - 1) 0)) = false := fun i hi hi3 => sf_rises HW.out (by omega) (by omega)
    have hlen : (sf l).length = 3 := by rw [len_sf]; exact hl3
    generalize sf l = S at *
    have HB2 := Lib.hid (HB1.out.trans (hb2.mono HZ1.out))
    have HRs := Lib.hid hR1'
    have HRt := Lib.hid hR2
    have HLe := Lib.hid hLe
    have Hb := Lib.hid hb'
    have Hw := Lib.hid hw'
    have Hl := Lib.hid hl'
    have Hlen := Lib.hid hlen
    clear hb2 hR2 hR1' hS1 hLe hb' hw' hl' hlen
    go_wp2
    go_loopw [12] (fun i wr => ∃ k : Nat, i = .int .i64 k ∧ k ≤ 3 ∧ Hid (Below w2.heap.size w2 wr)) (fun i _ => 3 - (intOf i).toNat)
    case atStart => exact ⟨0, rfl, by omega, Below.refl _ _⟩
    case round =>
      obtain ⟨k, rfl, hk, HK⟩ := hrel
      by_cases hlt : k < 3
      · obtain ⟨b0, off0, e0, -, h0⟩ := (HRs.out.on HK.out).at (k := k) (by rw [Hlen.out]; exact hlt)
        obtain ⟨b1, off1, e1, -, h1⟩ := (HRt.out.on HK.out).at (k := k) (by rw [Hlen.out]; exact hlt)
        obtain ⟨rfl, rfl⟩ : b0 = W0.heap.size ∧ off0 = 0 := by cases e0; exact ⟨rfl, rfl⟩
        obtain ⟨rfl, rfl⟩ : b1 = w1.heap.size ∧ off1 = 0 := by cases e1; exact ⟨rfl, rfl⟩
        have hwk := Hw.out k
        by_cases h0k : 0 < k
        · obtain ⟨b2, off2, e2, -, h2⟩ := (HRs.out.on HK.out).at (k := k - 1) (by rw [Hlen.out]; omega)
          obtain ⟨rfl, rfl⟩ : b2 = W0.heap.size ∧ off2 = 0 := by cases e2; exact ⟨rfl, rfl⟩
          have hwk' := Hw.out (k - 1)
          have cb := bits_any _ hwk
          rw [Hb.out k hlt] at cb
          have cl := fless_any _ _ hwk hwk'
          rw [Hl.out k h0k hlt] at cl
          have CB := Lib.hid cb
          have CL := Lib.hid cl
          rw [Nat.zero_add] at h0 h1 h2
          unfold encF at h0 h1 h2
          generalize S.getD k 0 = x at *
          generalize S.getD (k - 1) 0 = y at *
          clear cb cl
          go_wp2
          go_quiet (first
            | (go_at_call 14; exact Calls.quiet_of_same (flip_same (CB.out _)))
            | (go_at_call 9; exact Calls.quiet_of_same (flip_same (CL.out _))))
          go_wp2
          go_roundw
          case rel => exact ⟨k + 1, by go_num, by omega, below_drewN HK.out _⟩
          case measure => simp [intOf]; omega
        · have hk0 : k = 0 := by omega
          subst hk0
          have cb := bits_any _ hwk
          rw [Hb.out 0 hlt] at cb
          have CB := Lib.hid cb
          rw [Nat.zero_add] at h0 h1
          unfold encF at h0 h1
          generalize S.getD 0 0 = x at *
          clear cb
          go_wp2
          go_quiet (first
            | (go_at_call 14; exact Calls.quiet_of_same (flip_same (CB.out _))))
          go_wp2
          go_roundw
          case rel => exact ⟨1, rfl, by omega, below_drewN HK.out _⟩
          case measure => simp [intOf]
      · have hk3 : k = 3 := by omega
        subst hk3
        have hfin := HB2.out.trans (HK.out.mono HB2.out.size)
        have HL3 := Lib.hid (HLe.out wr Hw.out ((HRs.out.on HK.out).mono HK.out.size) (by decide))
        have HF := Lib.hid hfin
        clear hfin
        go_wp2_with (first
          | (go_at_call 16; go_fit HL3.out; rintro e w' ⟨rfl, rfl⟩)
          | (go_at_call 10; refine (awake_any _).mono ?_; rintro e w' ⟨rfl, hb⟩; have HB := Lib.hid hb; clear hb))
        go_ret
        exact ⟨rfl, HF.out.trans (HB.out.mono HF.out.size)⟩
theorem walk (a0 a1 a2 : Int) (w0 : (Lit.int .u64 a0).wf = true) (w1 : (Lit.int .u64 a1).wf = true) (w2 : (Lit.int .u64 a2).wf = true) (w : World) :
    Calls Try.prog 5 #[.int .u64 a0, .int .u64 a1, .int .u64 a2] w fun e w' => e = .returned (.bool true) ∧ Below w.heap.size w w' := by
  obtain ⟨h1, h2⟩ := bounds_u64 w0
  obtain ⟨h3, h4⟩ := bounds_u64 w1
  obtain ⟨h5, h6⟩ := bounds_u64 w2
  obtain ⟨a, rfl⟩ := Int.eq_ofNat_of_zero_le h1
  obtain ⟨b, rfl⟩ := Int.eq_ofNat_of_zero_le h3
  obtain ⟨c, rfl⟩ := Int.eq_ofNat_of_zero_le h5
  exact walk_nat a b c h2 h4 h6 w

/-! ### THE ROW's STEP: WRITTEN OUT: LEAVE IT -/
set_option maxRecDepth 100000 in
theorem lifted (os : Os) (started : os.Started) (H : Type) (enc : TypeId × Value → H) :
    ReturnsInHanded {} Try.checked os 5 .any (Rows.forderGoesSpec.pre6 enc Try.prog Try.f5 Rows.forderGoesRow.domain false) (Rows.forderGoesSpec.post enc Try.prog Try.f5 false true false false) := by
  refine returnsInHanded_of_change (C := Try.checked) own started (by kernel_rfl) Try.func5
    (ChangeSpec.witness6 (enc := enc) (C := Try.checked) false ⟨#[], #[.int .u64 0, .int .u64 0, .int .u64 0], []⟩ 8 (by kernel_rfl) (by kernel_rfl) (by kernel_rfl) (by kernel_rfl)) ?_
  intro W base args ds gs before hval0 hW hcnd _
  have hval : ∀ (j : Nat) t v, Try.f5.params[j]? = some t → args[j]? = some v → Value.okWide Try.prog W .any base t v := hval0
  have hW' := hW
  obtain ⟨p, q, hA0, hV, rfl, hfz, hnd⟩ := hW
  have hA : DataW.TrodAll enc Try.prog W 0 (fun _ => true) true Try.f5.params.toList args.toList ds p := hA0
  rw [Try.params5] at hA hval
  obtain ⟨v0, vs0, d0, ds0, p0, q0, hargs, rfl, rfl, h0, r0⟩ := trodAll_cons hA
  obtain ⟨v1, vs1, d1, ds1, p1, q1, rfl, rfl, rfl, h1, r1⟩ := trodAll_cons r0
  obtain ⟨v2, vs2, d2, ds2, p2, q2, rfl, rfl, rfl, h2, r2⟩ := trodAll_cons r1
  obtain ⟨rfl, rfl, rfl⟩ := trodAll_nil r2
  obtain rfl : args = #[v0, v1, v2] := by cases args; simp_all
  obtain ⟨rfl, rfl⟩ := trodVars_none hV
  obtain ⟨a0, rfl, rfl, rfl, w0⟩ := open_int Try.underlying22 (hval 0 22 v0 rfl rfl) h0
  obtain ⟨a1, rfl, rfl, rfl, w1⟩ := open_int Try.underlying22 (hval 1 22 v1 rfl rfl) h1
  obtain ⟨a2, rfl, rfl, rfl, w2⟩ := open_int Try.underlying22 (hval 2 22 v2 rfl rfl) h2
  clear hA0 hval0
  simp only [List.append_nil] at hW'
  refine (walk a0 a1 a2 w0 w1 w2 W).mono fun e W' ⟨he, bel⟩ => ?_
  subst he
  exact ⟨_, rfl, _, _, _, [], [], [], hW', trodAll_mk1 (shut_bool Try.underlying4 _), (trodAll_cons_mk (shut_int Try.underlying22 w0) (trodAll_cons_mk (shut_int Try.underlying22 w1) (trodAll_cons_mk (shut_int Try.underlying22 w2) trodAll_mk0))), rfl, bel.frame _, fun h => by cases h⟩

theorem over : Rows.forderGoesRow.holds Try.pinned (OpenSpec.ofChange Rows.forderGoesSpec) :=
  OpenClaim.holds_of_wide 5 Try.f5 rfl rfl rfl rfl rfl rfl rfl ⟨rfl, rfl, rfl, rfl, rfl⟩ rfl rfl rfl rfl rfl (by kernel_rfl) Try.func5 (by kernel_rfl)
    (of_decide_eq_true (by kernel_rfl)) (by unfold Func.isWrapper; first | (rw [if_pos (by decide +kernel)]; kernel_rfl) | (rw [if_neg (by decide +kernel)]; exact ⟨rfl, rfl⟩))
    (fun os started H enc _ => lifted os started H enc)

/-- ████ THE STATEMENT ████ -/
theorem proved : Rows.ForderGoesSaid :=
  over
#print axioms proved
end Go.Proofs.Ytbebnhadgbkepaa.forderGoes
