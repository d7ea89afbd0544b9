/- Any pairs of any vertices, joined one behind the other in classes of any room, give the classes that the document says: what each Join tells, what each vertex's class is called and has, which two are in one, how many classes there are, and all of them in order. Conditions: none: every room, every slice of pairs (of more than sixty pairs, or of room above 300, the law asks only that the program joins classes at all). -/
import Derived.Test.YtnnicfjlakpghaaDsuPlay
import Derived.Test.YtnnicfjlakpghaaRows
import Derived.Deep.RegionHeld3
import Derived.ProofKit
import Derived.OpenShut
import Derived.ChangeOld
import Derived.Below
namespace Go.Proofs.Ytnnicfjlakpghaa.dsuPlays
open Go.ChangeShapes Go.WideShapes Go.ChangeAt Go.RowKit Go.Maps DsuPure
theorem twoZ_of (n : Nat) (p : Nat → Nat) (u v : Int) : twoZ n p u v = (decide (0 ≤ ofZ n p u) && decide (0 ≤ ofZ n p v) && !sameZ n p u v) := by
  unfold twoZ ofZ sameZ
  cases hu : fitB n u <;> cases hv : fitB n v <;> simp
set_option maxRecDepth 100000 in
set_option maxHeartbeats 8000000 in
theorem walk_list (n : Int) (a : Option Addr) (cap : Nat) (l : List (Int × Int)) (w : World) (hl : ReadsO w.heap.size w a l) (hm : l.length ≤ maxLen) :
    Calls Try.prog 3 #[.int .i64 n, .slice a l.length cap] w fun e w' => e = .returned (.bool true) ∧ Below w.heap.size w w' := by
  have HL := Lib.hid hl
  have hm : l.length ≤ 9223372036854775807 := by unfold maxLen at hm; omega
  clear hl
  by_cases h60 : 60 < l.length
  · go_enter Try.func3, Try.ntmps3
    go_wp2_with (first | (go_at_call 5; refine (awake_any _).mono ?_; rintro e w1 ⟨rfl, hb1⟩; have HB := Lib.hid hb1; clear hb1))
    go_ret
    exact ⟨rfl, HB.out⟩
  have hlen : l.length ≤ 60 := by omega
  by_cases h300 : n > 300
  · go_enter Try.func3, Try.ntmps3
    go_wp2_with (first | (go_at_call 5; refine (awake_any _).mono ?_; rintro e w1 ⟨rfl, hb1⟩; have HB := Lib.hid hb1; clear hb1))
    go_ret
    exact ⟨rfl, HB.out⟩
  clear h60 hm
  go_enter Try.func3, Try.ntmps3
  go_wp2_with fail
  refine (new_any n w).mono ?_
  rintro e w1 ⟨b, g, m, rfl, hb1, l1, l2, l3, hc1⟩
  have HC1 := Lib.hid (And.intro hb1 hc1)
  clear hb1 hc1
  go_wp2_with fail
  refine (newRef_any n w1).mono ?_
  rintro e w2 ⟨q, c, rfl, hb2, ho2, hr2⟩
  have HP2 := Lib.hid (play_start (c := c) 28 HC1.out.1 HC1.out.2 l1 l2 l3 hb2 ho2 hr2)
  clear hb2 ho2 hr2 HC1 h300 l1 l2 l3
  have hN4 := roomN_le n
  generalize roomN n = N at *
  go_upto_region 4 with fail
  generalize w2.alloc (.cells #[.slice q N c] 28) = W0 at *
  generalize w2.heap.size = X at *
  go_wp2_with fail
  go_loopw [7] (fun i wr => ∃ (k : Nat) (q : Option Addr) (c : Nat) (p : Nat → Nat), i = .int .i64 k ∧ k ≤ l.length ∧ Hid (PlayAt w b g m X N p q c wr)) (fun i _ => l.length - (intOf i).toNat)
  case atStart => exact ⟨0, _, _, _, rfl, Nat.zero_le _, HP2⟩
  case round =>
    obtain ⟨k, q, c, p, rfl, hk, HP⟩ := hrel
    clear HP2
    have i0 : (0 : Int) ≤ (k : Int) := by omega
    by_cases hlt : k < l.length
    · have i1 : (k : Int) < (l.length : Int) := by omega
      obtain ⟨bl, off, rfl, hbN, d0, d1⟩ := HL.out.at HP.out.1 hlt
      generalize l[k].1 = u at *
      generalize l[k].2 = v at *
      go_upto_region 7 with fail
      go_cut [8, 9] from 25 to 91 (fun s t wx => s = .int .i64 u ∧ t = .int .i64 v ∧ Hid (PlayAt w b g m X N p q c wx))
      case first =>
        go_quiet (fail)
        go_wp2_with fail
        go_meet
        case rel => exact ⟨rfl, rfl, Lib.hid (HP.out.keep (below_drewN (Below.refl _ _) _))⟩
      case rest =>
      obtain ⟨rfl, rfl, HP1⟩ := hcut
      clear HP d0 d1
      go_upto_region 8 with fail
      obtain ⟨D, hD⟩ : ∃ D, sameZ N p u v = D := ⟨_, rfl⟩
      have HD := Lib.hid hD
      have tt : (D != D) = false := bne_self_eq_false _
      clear hD
      go_cut [49] from 25 to 91 (fun s wx => s = .bool false ∧ Hid (PlayAt w b g m X N p q c wx))
      case first =>
        go_region_held3 (fun W => W.cell? ⟨X, 0, none⟩ = some (.slice q N c) ∧ Hid (PlayAt w b g m X N p q c W))
          (first
            | exact (HP1.out.keep ((Below.refl _ _).drew)).both
            | (go_split_ands; exact ((by assumption : Hid (PlayAt w b g m X N p q c _)).out.turn ht1 hc1).both)
            | (go_split_ands; exact ((by assumption : Hid (PlayAt w b g m X N p q c _)).out.keep hb1).both)
            | go_keep)
          (first
            | (go_at_call 8; go_split_ands; refine (same_any b g m N p u v _ (by assumption : Hid (PlayAt w b g m X N p q c _)).out.2.1).mono ?_; rintro e v1 ⟨rfl, ht1, hc1⟩; rw [HD.out])
            | (go_at_call 9; go_split_ands; refine (sameRef_any N p q c u v _ (by assumption : Hid (PlayAt w b g m X N p q c _)).out.2.2.2.1).mono ?_; rintro e v1 ⟨rfl, hb1⟩; rw [HD.out]))
        all_goals go_wp2_with fail
        all_goals go_meet
        all_goals exact ⟨rfl, (by assumption : _ ∧ Hid (PlayAt w b g m X N p q c _)).2⟩
      case rest =>
      obtain ⟨rfl, HP2⟩ := hcut
      clear HP1 tt
      obtain ⟨y0, -⟩ := HP2.out.cells
      have HT := Lib.hid (twoZ_of N p u v)
      rw [HD.out] at HT
      obtain ⟨T, hT⟩ : ∃ T, twoZ N p u v = T := ⟨_, rfl⟩
      have HTw := Lib.hid hT
      rw [hT] at HT
      clear hT
      go_upto_region 10 with fail
      go_cut [10] from 25 to 91 (fun s wx => s = .bool T ∧ Hid (PlayAt w b g m X N p q c wx))
      case first =>
        go_wp2_with fail
        refine (ofRef_any N p q c u _ HP2.out.2.2.2.1).mono ?_
        rintro e v1 ⟨rfl, hb1⟩
        have HP3 := Lib.hid (HP2.out.keep hb1)
        clear hb1 HP2 y0
        obtain ⟨y0, -⟩ := HP3.out.cells
        obtain ⟨A, hA⟩ : ∃ A, ofZ N p u = A := ⟨_, rfl⟩
        obtain ⟨B, hB⟩ : ∃ B, ofZ N p v = B := ⟨_, rfl⟩
        have HB := Lib.hid hB
        rw [hA, hB] at HT
        rw [hA]
        clear hA hB
        by_cases pa : 0 ≤ A
        · have pa' : A ≥ 0 := pa
          go_wp2_with fail
          refine (ofRef_any N p q c v _ HP3.out.2.2.2.1).mono ?_
          rintro e v2 ⟨rfl, hb2⟩
          have HP4 := Lib.hid (HP3.out.keep hb2)
          clear hb2 HP3 y0
          obtain ⟨y0, -⟩ := HP4.out.cells
          rw [HB.out]
          by_cases pb : 0 ≤ B
          · have pb' : B ≥ 0 := pb
            go_wp2_with fail
            refine (sameRef_any N p q c u v _ HP4.out.2.2.2.1).mono ?_
            rintro e v3 ⟨rfl, hb3⟩
            have HP5 := Lib.hid (HP4.out.keep hb3)
            clear hb3 HP4 y0
            rw [HD.out]
            have HT2 : Hid (T = !D) := Lib.hid (by rw [HT.out, decide_eq_true pa, decide_eq_true pb]; rfl)
            go_wp2_with fail
            go_meet
            case rel => exact ⟨by rw [HT2.out], HP5⟩
          · have pb' : ¬ B ≥ 0 := pb
            have HT2 : Hid (T = false) := Lib.hid (by rw [HT.out, decide_eq_false pb, Bool.and_false]; rfl)
            go_wp2_with fail
            go_meet
            case rel => exact ⟨by rw [HT2.out], HP4⟩
        · have pa' : ¬ A ≥ 0 := pa
          have HT2 : Hid (T = false) := Lib.hid (by rw [HT.out, decide_eq_false pa]; rfl)
          go_wp2_with fail
          go_meet
          case rel => exact ⟨by rw [HT2.out], HP3⟩
      case rest =>
      obtain ⟨rfl, HP3⟩ := hcut
      clear HP2 y0 HT
      go_wp2_with fail
      refine (join_any b g m N p u v _ HP3.out.2.1).mono ?_
      rintro e v1 ⟨rfl, ht1, hc1⟩
      have HH := Lib.hid (HP3.out.half ht1 hc1)
      rw [HTw.out]
      clear ht1 hc1 HP3
      have y0 := HH.out.2.2.1.1
      go_wp2_with fail
      refine (joinRef_any N hN4 p q c u v _ HH.out.2.2.2.1).mono ?_
      rintro e v2 ⟨q2, c2, rfl, hb2, ho2, hr2⟩
      have HP4 := Lib.hid (HH.out.store (c' := c2) hb2 ho2 hr2)
      obtain ⟨y1, f1⟩ := HH.out.2.2.1.keep hb2
      clear hb2 ho2 hr2 y0 HH HTw HD
      have tt : (T != T) = false := bne_self_eq_false _
      go_upto_region 13 with fail
      generalize v2.setCell ⟨X, 0, none⟩ (.slice q2 N c2) = W4 at *
      generalize joinZ N p u v = p2 at *
      clear y1 f1
      obtain ⟨y0, -⟩ := HP4.out.cells
      go_wp2_with fail
      refine (same_true b g m N p2 q2 c2 u W4 HP4.out.2.1 HP4.out.2.2.2.1 HP4.out.2.2.2.2.1).mono ?_
      rintro e v3 ⟨rfl, ht1, hc1⟩
      have HP5 := Lib.hid (HP4.out.turn ht1 hc1)
      clear ht1 hc1 HP4 y0
      obtain ⟨y0, -⟩ := HP5.out.cells
      go_wp2_with fail
      refine (same_true b g m N p2 q2 c2 v v3 HP5.out.2.1 HP5.out.2.2.2.1 HP5.out.2.2.2.2.1).mono ?_
      rintro e v4 ⟨rfl, ht1, hc1⟩
      have HP6 := Lib.hid (HP5.out.turn ht1 hc1)
      clear ht1 hc1 HP5 y0
      go_wp2_with fail
      go_roundw
      case rel => exact ⟨k + 1, _, _, _, by go_num, by omega, HP6⟩
      case measure => (simp [intOf] <;> omega)
    · have hge : ¬ (k : Int) < (l.length : Int) := by omega
      obtain ⟨W1, hW1⟩ : ∃ W1, W1 = wr := ⟨_, rfl⟩
      subst hW1
      clear HL
      go_wp2_with fail
      go_loopw [12] (fun i wr => ∃ z : Nat, i = .int .i64 ((z : Int) - 1) ∧ z ≤ N + 2 ∧ Hid (PlayAt w b g m X N p q c wr)) (fun i _ => (N + 1 - intOf i).toNat)
      case atStart => exact ⟨0, rfl, by omega, HP⟩
      case round =>
        obtain ⟨z, rfl, hz, HQ⟩ := hrel
        clear HP
        obtain ⟨y0, -⟩ := HQ.out.cells
        by_cases hzt : z < N + 2
        · have z1 : (z : Int) - 1 ≤ (N : Int) := by omega
          have zw : IntKind.i64.wrap ((z : Int) - 1 + 1) = ((z + 1 : Nat) : Int) - 1 := by rw [IntKind.wrap_i64]; omega
          go_wp2_with fail
          refine (same_true b g m N p q c ((z : Int) - 1) _ HQ.out.2.1 HQ.out.2.2.2.1 HQ.out.2.2.2.2.1).mono ?_
          rintro e v3 ⟨rfl, ht1, hc1⟩
          have HQ2 := Lib.hid (HQ.out.turn ht1 hc1)
          clear ht1 hc1 HQ y0
          go_wp2_with fail
          go_roundw
          case rel => exact ⟨z + 1, by first | (congr 1; omega) | go_num, by omega, HQ2⟩
          case measure => (simp [intOf] <;> omega)
        · have z1 : ¬ (z : Int) - 1 ≤ (N : Int) := by omega
          have HLn := Lib.hid (listsP_len N p)
          have HLe : Hid (∀ r ∈ listsP N p, r.length ≤ 1000000) := Lib.hid fun r hr => by
            unfold listsP at hr
            obtain ⟨x, -, rfl⟩ := List.mem_map.1 hr
            have := rowL_le N p x
            omega
          have hLl : (listsP N p).length ≤ 1000000 := by rw [HLn.out]; have := rootsN_le N p; omega
          generalize hLL : listsP N p = LL at *
          go_upto_region 20 with fail
          go_region_held3 (fun W => W.cell? ⟨X, 0, none⟩ = some (.slice q N c) ∧ Hid (PlayAt w b g m X N p q c W))
            (first
              | exact (HQ.out.keep ((Below.refl _ _).drew)).both
              | (go_split_ands; exact ((by assumption : Hid (PlayAt w b g m X N p q c _)).out.turn ht1 hc1).both)
              | (go_split_ands; exact ((by assumption : Hid (PlayAt w b g m X N p q c _)).out.keep hb4).both)
              | (go_split_ands; exact ((by assumption : Hid (PlayAt w b g m X N p q c _)).out.keep hb3).both)
              | (go_split_ands; exact ((by assumption : Hid (PlayAt w b g m X N p q c _)).out.keep hb2).both)
              | go_keep)
            (first
              | (go_at_call 15; go_split_ands; refine (list_any b g m N p _ (by assumption : Hid (PlayAt w b g m X N p q c _)).out.2.1).mono ?_; rintro e v1 ⟨a1, c1, rfl, hr1, ht1, hc1⟩; rw [hLL] at hr1 ⊢; have HR1 := Lib.hid hr1; clear hr1)
              | (go_at_call 16; go_split_ands; refine (listRef_any N hN4 p q c _ (by assumption : Hid (PlayAt w b g m X N p q c _)).out.2.2.2.1).mono ?_; rintro e v2 ⟨a2, c2, rfl, hr2, hb2⟩; rw [hLL] at hr2 ⊢; have HR2 := Lib.hid hr2; have HR12 := Lib.hid (HR1.out.keep hb2); clear hr2)
              | (go_at_call 14; refine (lists_true _ _ _ _ _ _ LL _ HR12.out HR2.out hLl HLe.out).mono ?_; rintro e v3 ⟨rfl, m3, rfl⟩; have hb3 := below_drewN (Below.refl v2.heap.size v2) m3)
              | (go_at_call 5; refine (awake_any _).mono ?_; rintro e v4 ⟨rfl, hb4⟩))
          all_goals go_wp2
          all_goals go_ret
          all_goals exact ⟨rfl, (by assumption : _ ∧ Hid (PlayAt w b g m X N p q c _)).2.out.1⟩
theorem own : ownKnob Try.prog.godebug = none := by kernel_rfl
theorem laidOut : laidOutB Try.prog = true := by kernel_rfl
set_option maxRecDepth 100000 in
theorem lifted (os : Os) (started : os.Started) (H : Type) (enc : TypeId × Value → H) :
    ReturnsInHanded {} Try.checked os 3 .any (Rows.dsuPlaysSpec.pre6 enc Try.prog Try.f3 Rows.dsuPlaysRow.domain false) (Rows.dsuPlaysSpec.post enc Try.prog Try.f3 false true false false) := by
  refine returnsInHanded_of_change (C := Try.checked) own started (by kernel_rfl) Try.func3
    (ChangeSpec.witness6 (enc := enc) (C := Try.checked) false ⟨#[], #[.int .i64 0, .slice none 0 0], []⟩ 8 (by kernel_rfl) (by kernel_rfl) (by kernel_rfl) (by kernel_rfl)) ?_
  intro W base args ds gs before hval0 hW hcnd _
  have hval : ∀ (j : Nat) t v, Try.f3.params[j]? = some t → args[j]? = some v → Value.okWide Try.prog W .any base t v := hval0
  have hW' := hW
  obtain ⟨p, q, hA0, hV, rfl, hfz, hnd⟩ := hW
  have hA : DataW.TrodAll enc Try.prog W 0 (fun _ => true) true Try.f3.params.toList args.toList ds p := hA0
  rw [Try.params3] at hA hval
  obtain ⟨v0, vs0, d0, ds0, p0, q0, hargs, rfl, rfl, h0, r0⟩ := trodAll_cons hA
  obtain ⟨v1, vs1, d1, ds1, p1, q1, rfl, rfl, rfl, h1, r1⟩ := trodAll_cons r0
  obtain ⟨rfl, rfl, rfl⟩ := trodAll_nil r1
  obtain rfl : args = #[v0, v1] := by cases args; simp_all
  obtain ⟨rfl, rfl⟩ := trodVars_none hV
  obtain ⟨a0, rfl, rfl, rfl, w0⟩ := open_int Try.underlying3 (hval 0 3 v0 rfl rfl) h0
  obtain ⟨a1, len1, cap1, rfl⟩ := okWide_slice Try.underlying22 (hval 1 22 v1 rfl rfl)
  have k1 := h1
  have lt1 : ∀ x ∈ p1, x.block < W.heap.size := by obtain ⟨m, hm⟩ := k1; exact DataW.trod_lt m _ _ _ hm
  obtain ⟨l1, hlen1, w1⟩ : ∃ l : List (Int × Int), l.length = len1 ∧ ReadsO W.heap.size W a1 l ∧ l.length ≤ maxLen := by
    obtain ⟨fuel, hf⟩ := h1
    exact open_pairsI hf
  subst hlen1
  clear hA0 hval0
  refine (walk_list a0 a1 cap1 l1 W w1.1 w1.2).mono fun e W' ⟨he, bel⟩ => ?_
  subst he
  exact ⟨_, rfl, _, _, _, [], _, [], hW', trodAll_mk1 (shut_bool Try.underlying4 _), (trodAll_cons_mk (shut_int Try.underlying3 w0) (trodAll_cons_mk (Below.trod laidOut (by kernel_rfl) (of_decide_eq_true (by kernel_rfl)) k1 bel lt1) trodAll_mk0)), rfl, bel.frame _, fun h => by cases h⟩
theorem over : Rows.dsuPlaysRow.holds Try.pinned (OpenSpec.ofChange Rows.dsuPlaysSpec) :=
  OpenClaim.holds_of_wide 3 Try.f3 rfl rfl rfl rfl rfl rfl rfl ⟨rfl, rfl, rfl, rfl, rfl⟩ rfl rfl rfl rfl rfl (by kernel_rfl) Try.func3 (by kernel_rfl)
    (of_decide_eq_true (by kernel_rfl)) (by unfold Func.isWrapper; first | (rw [if_pos (by decide +kernel)]; kernel_rfl) | (rw [if_neg (by decide +kernel)]; exact ⟨rfl, rfl⟩))
    (fun os started H enc _ => lifted os started H enc)
/-- The statement. -/
theorem proved : Rows.DsuPlaysSaid := over
#print axioms proved
end Go.Proofs.Ytnnicfjlakpghaa.dsuPlays
