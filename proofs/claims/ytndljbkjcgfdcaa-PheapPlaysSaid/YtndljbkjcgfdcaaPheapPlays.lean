/- Any calls of Push, Raise, Pop, Drop and Top on a heap of any room, one behind the other, answer as the document's heap does; so do Len and Key behind each of them, and Links never falls. Conditions: none: every room, every slice of calls (of more than two hundred the law asks only that the program has heaps at all). -/
import Derived.Test.YtndljbkjcgfdcaaHeapDo
import Derived.Test.YtndljbkjcgfdcaaChecked
import Derived.Test.YtndljbkjcgfdcaaRows
import Derived.ChangeSlices
import Derived.ProofKit
import Derived.OpenShut
import Derived.ChangeOld
import Derived.Below
namespace Go.Proofs.Ytndljbkjcgfdcaa.pheapPlays
open Go.ChangeShapes Go.WideShapes Go.ChangeAt Go.RowKit NdPure HpPure HeapPure
theorem flip_same {P : Program} {f : FuncId} {args : Array Value} {w : World} {v : Value} (h : Calls P f args w fun e w' => e = .returned v ∧ w = w') : Calls P f args w fun e w' => e = .returned v ∧ w' = w :=
  h.mono fun _ _ ⟨a, b⟩ => ⟨a, b.symm⟩
theorem play_start {w w1 w2 : World} {B : Bl} {R : Rb} {A : List (Option Int)} (h1 : HpIs (fun _ => False) B w A 0 w1) (hb : Below w1.heap.size w1 w2) (hq : ∀ k, RQ R k → w1.heap.size ≤ k) (hr : RfAt R w2 A) : PlayQ w B R (RQ R) A A 0 w2 :=
  ⟨((HpQ.start h1).grown (Turn.ofBelow (O := fun _ => False) hb) (fun _ e => e.elim)).mono (fun k e => Or.inr ⟨hq k e, hr.lt k e⟩), hr, fun _ e => e⟩
set_option maxRecDepth 100000 in
set_option maxHeartbeats 16000000 in
theorem walk_list (n : Int) (a : Option Addr) (cap : Nat) (l : List (Int × Int × Int)) (w : World) (hl : ReadsOp w.heap.size w a l) (hm : l.length ≤ maxLen) :
    Calls Try.prog 3 #[.int .i64 n, .slice a l.length cap] w fun e w' => e = .returned (.bool true) ∧ Below w.heap.size w w' := by
  have HL := Lib.hid hl
  have hm : l.length ≤ 9223372036854775807 := by unfold maxLen at hm; omega
  clear hl
  by_cases h200 : 200 < l.length
  · go_enter Try.func3, Try.ntmps3
    go_wp2_with (first | (go_at_call 6; refine (awake_any _).mono ?_; rintro e w1 ⟨rfl, hb1⟩; have HB := Lib.hid hb1; clear hb1))
    go_ret
    exact ⟨rfl, HB.out⟩
  have hlen : l.length ≤ 200 := by omega
  clear h200 hm
  go_enter Try.func3, Try.ntmps3
  go_wp2_with fail
  refine (newH_run n w).mono ?_
  rintro e w1 ⟨B, rfl, h1⟩
  have H1 := Lib.hid h1
  clear h1
  go_wp2_with fail
  refine (newR_run n w1).mono ?_
  rintro e w2 ⟨R, rfl, hb2, hq2, hr2⟩
  have HP := Lib.hid (play_start H1.out hb2 hq2 hr2)
  clear hb2 hq2 hr2 H1
  generalize List.replicate (roomH n) none = A0 at *
  obtain ⟨O0, hi0⟩ := HP.out.1.is
  have HI0 := Lib.hid hi0
  obtain ⟨⟨r0, -⟩, ⟨rb, -⟩, -⟩ := HP.out.2.1.cells
  have HRun : Hid (∀ k, Calls Try.prog 9 #[.pointer (some ⟨B.b, 0, none⟩)] (w2.drewN k) fun e w' => e = .returned (.int .i64 (A0.length : Int)) ∧ w2.drewN k = w') := Lib.hid fun k => room_run _ (HI0.out.keep (below_drewN (Below.refl _ _) k))
  clear hi0
  have t0 : ((A0.length : Int) != (A0.length : Int)) = false := bne_self_eq_false _
  go_wp2_with fail
  go_quiet ((go_at_call 9; exact Calls.quiet_of_same (flip_same (HRun.out _))))
  have HP1 : Hid (PlayQ w B R (RQ R) A0 A0 0 (w2.drewN nq)) := Lib.hid (HP.out.drawn nq)
  clear HP HI0 r0 rb HRun
  generalize w2.drewN nq = w3 at *
  go_wp2_with fail
  go_loopw [7, 8] (fun s i wr => ∃ (k : Nat) (lk : Int) (A : List (Option Int)), i = .int .i64 k ∧ s = .int .i64 lk ∧ k ≤ l.length ∧ (0 ≤ lk ∧ lk ≤ 4097 * (k : Int)) ∧ Hid (PlayQ w B R (RQ R) A A lk wr)) (fun _ i _ => l.length - (intOf i).toNat)
  case atStart => exact ⟨0, 0, A0, rfl, rfl, Nat.zero_le _, ⟨Int.le_refl _, by omega⟩, HP1⟩
  case round =>
    obtain ⟨k, lk, A, rfl, rfl, hk, ⟨hk0, hk1⟩, HK⟩ := hrel
    clear HP1 t0
    have i0 : (0 : Int) ≤ (k : Int) := by omega
    by_cases hlt : k < l.length
    · have i1 : (k : Int) < (l.length : Int) := by omega
      obtain ⟨bl, off, rfl, hbN, d0, d1, d2⟩ := HL.out.at HK.out.below hlt
      have HD : Hid (∀ W, Below w.heap.size w W → W.cell? ⟨bl, off + k * 3 + 1, none⟩ = some (.int .i64 l[k].2.1) ∧ bl < W.heap.size) := Lib.hid fun W hW => by
        obtain ⟨bl', off', e, h1, -, h2, -⟩ := HL.out.at hW hlt
        cases e
        exact ⟨h2, h1⟩
      generalize l[k].1 = ko at *
      generalize l[k].2.1 = no at *
      generalize l[k].2.2 = xo at *
      go_wp2_with fail
      refine (do_run wr ko no xo HK.out (by omega)).mono ?_
      rintro e w4 ⟨rfl, l3, b1, b2, h4⟩
      have H2 := Lib.hid h4
      clear h4 HK d0 d1 d2 hbN
      obtain ⟨O, hi⟩ := H2.out.1.is
      have HI := Lib.hid hi
      clear hi
      have HRf := Lib.hid H2.out.2.1
      generalize stepA A ko no xo = A2 at *
      have t1 : ((lenA A2 : Int) != (lenA A2 : Int)) = false := bne_self_eq_false _
      have t2 : ¬ l3 < lk := by omega
      cases hin : inA A2 no
      · have HN := Lib.hid hin
        have HV := Lib.hid (key_no hin)
        have HHas : Hid (∀ m, Calls Try.prog 15 #[.pointer (some ⟨R.b, 0, none⟩), .int .i64 no] (w4.drewN m) fun e w' => e = .returned (.bool false) ∧ w4.drewN m = w') := Lib.hid fun m => by
          have := hasR_run (w4.drewN m) no (HRf.out.keep (below_drewN (Below.refl _ _) m))
          rwa [hin] at this
        obtain ⟨d1, d2⟩ := HD.out _ H2.out.below
        clear hin
        go_upto_region 14 with (first
          | (go_at_call 11; refine (len_run _ HI.out).mono ?_; rintro e w5 ⟨rfl, rfl⟩)
          | (go_at_call 12; refine (lenR_run _ HRf.out).mono ?_; rintro e w5 ⟨rfl, rfl⟩)
          | (go_at_call 13; refine (links_run _ HI.out).mono ?_; rintro e w5 ⟨rfl, rfl⟩)
          | (go_at_call 14; refine (key_run _ no HI.out).mono ?_; rintro e w5 ⟨rfl, rfl⟩; rw [HV.out, HN.out]))
        clear HI HRf HD HN HV
        go_quiet ((go_at_call 15; exact Calls.quiet_of_same (flip_same (HHas.out _))))
        go_wp2
        go_roundw
        case rel => exact ⟨k + 1, l3, A2, by go_num, rfl, by omega, ⟨by omega, by omega⟩, Lib.hid (H2.out.drawn _)⟩
        case measure => (simp [intOf] <;> omega)
      · have HN := Lib.hid hin
        obtain ⟨u, kx, e, g, hu⟩ := in_yes hin
        subst e
        have HV := Lib.hid (key_of g)
        have HHas : Hid (∀ m, Calls Try.prog 15 #[.pointer (some ⟨R.b, 0, none⟩), .int .i64 (u : Int)] (w4.drewN m) fun e w' => e = .returned (.bool true) ∧ w4.drewN m = w') := Lib.hid fun m => by
          have := hasR_run (w4.drewN m) (u : Int) (HRf.out.keep (below_drewN (Below.refl _ _) m))
          rwa [hin] at this
        obtain ⟨d1, d2⟩ := HD.out _ H2.out.below
        obtain ⟨⟨-, c1⟩, ⟨rb, -, rY⟩, -⟩ := HRf.out.cells
        obtain ⟨-, z, d3, -, hz⟩ := HRf.out.get g
        obtain rfl := hz kx rfl
        have a0 : (0 : Int) ≤ (u : Int) := by omega
        have a1 : (u : Int) < (A2.length : Int) := by omega
        have t3 : (z != z) = false := bne_self_eq_false _
        clear hin g hu hz
        go_upto_region 14 with (first
          | (go_at_call 11; refine (len_run _ HI.out).mono ?_; rintro e w5 ⟨rfl, rfl⟩)
          | (go_at_call 12; refine (lenR_run _ HRf.out).mono ?_; rintro e w5 ⟨rfl, rfl⟩)
          | (go_at_call 13; refine (links_run _ HI.out).mono ?_; rintro e w5 ⟨rfl, rfl⟩)
          | (go_at_call 14; refine (key_run _ _ HI.out).mono ?_; rintro e w5 ⟨rfl, rfl⟩; rw [HV.out, HN.out]))
        clear HI HRf HD HN HV
        go_quiet ((go_at_call 15; exact Calls.quiet_of_same (flip_same (HHas.out _))))
        go_wp2
        go_roundw
        case rel => exact ⟨k + 1, l3, A2, by go_num, rfl, by omega, ⟨by omega, by omega⟩, Lib.hid (H2.out.drawn _)⟩
        case measure => (simp [intOf] <;> omega)
    · have hge : ¬ (k : Int) < (l.length : Int) := by omega
      clear HL
      go_wp2_with (first | (go_at_call 6; refine (awake_any _).mono ?_; rintro e w3 ⟨rfl, hb3⟩; have HB3 := Lib.hid (HK.out.below.trans (hb3.mono HK.out.below.size)); clear hb3))
      go_ret
      exact ⟨rfl, HB3.out⟩
theorem own : ownKnob Try.prog.godebug = none := by kernel_rfl
theorem laidOut : laidOutB Try.prog = true := by kernel_rfl
set_option maxRecDepth 100000 in
theorem lifted (os : Os) (started : os.Started) (H : Type) (enc : TypeId × Value → H) :
    ReturnsInHanded {} Try.checked os 3 .any (Rows.pheapPlaysSpec.pre6 enc Try.prog Try.f3 Rows.pheapPlaysRow.domain false) (Rows.pheapPlaysSpec.post enc Try.prog Try.f3 false true false false) := by
  refine returnsInHanded_of_change (C := Try.checked) own started (by kernel_rfl) Try.func3
    (ChangeSpec.witness6 (enc := enc) (C := Try.checked) false ⟨#[], #[.int .i64 0, .slice none 0 0], []⟩ 8 (by kernel_rfl) (by kernel_rfl) (by kernel_rfl) (by kernel_rfl)) ?_
  intro W base args ds gs before hval0 hW hcnd _
  have hval : ∀ (j : Nat) t v, Try.f3.params[j]? = some t → args[j]? = some v → Value.okWide Try.prog W .any base t v := hval0
  have hW' := hW
  obtain ⟨p, q, hA0, hV, rfl, hfz, hnd⟩ := hW
  have hA : DataW.TrodAll enc Try.prog W 0 (fun _ => true) true Try.f3.params.toList args.toList ds p := hA0
  rw [Try.params3] at hA hval
  obtain ⟨v0, vs0, d0, ds0, p0, q0, hargs, rfl, rfl, h0, r0⟩ := trodAll_cons hA
  obtain ⟨v1, vs1, d1, ds1, p1, q1, rfl, rfl, rfl, h1, r1⟩ := trodAll_cons r0
  obtain ⟨rfl, rfl, rfl⟩ := trodAll_nil r1
  obtain rfl : args = #[v0, v1] := by cases args; simp_all
  obtain ⟨rfl, rfl⟩ := trodVars_none hV
  obtain ⟨a0, rfl, rfl, rfl, w0⟩ := open_int Try.underlying3 (hval 0 3 v0 rfl rfl) h0
  obtain ⟨a1, len1, cap1, rfl⟩ := okWide_slice Try.underlying22 (hval 1 22 v1 rfl rfl)
  have k1 := h1
  have lt1 : ∀ x ∈ p1, x.block < W.heap.size := by obtain ⟨m, hm⟩ := k1; exact DataW.trod_lt m _ _ _ hm
  obtain ⟨l1, hlen1, w1⟩ : ∃ l : List (Int × Int × Int), l.length = len1 ∧ ReadsOp W.heap.size W a1 l ∧ l.length ≤ maxLen := by
    obtain ⟨fuel, hf⟩ := h1
    exact open_ops hf
  subst hlen1
  clear hA0 hval0
  refine (walk_list a0 a1 cap1 l1 W w1.1 w1.2).mono fun e W' ⟨he, bel⟩ => ?_
  subst he
  exact ⟨_, rfl, _, _, _, [], _, [], hW', trodAll_mk1 (shut_bool Try.underlying4 _), (trodAll_cons_mk (shut_int Try.underlying3 w0) (trodAll_cons_mk (Below.trod laidOut (by kernel_rfl) (of_decide_eq_true (by kernel_rfl)) k1 bel lt1) trodAll_mk0)), rfl, bel.frame _, fun h => by cases h⟩
theorem over : Rows.pheapPlaysRow.holds Try.pinned (OpenSpec.ofChange Rows.pheapPlaysSpec) :=
  OpenClaim.holds_of_wide 3 Try.f3 rfl rfl rfl rfl rfl rfl rfl ⟨rfl, rfl, rfl, rfl, rfl⟩ rfl rfl rfl rfl rfl (by kernel_rfl) Try.func3 (by kernel_rfl)
    (of_decide_eq_true (by kernel_rfl)) (by unfold Func.isWrapper; first | (rw [if_pos (by decide +kernel)]; kernel_rfl) | (rw [if_neg (by decide +kernel)]; exact ⟨rfl, rfl⟩))
    (fun os started H enc _ => lifted os started H enc)
/-- The statement. -/
theorem proved : Rows.PheapPlaysSaid := over
#print axioms proved
end Go.Proofs.Ytndljbkjcgfdcaa.pheapPlays
