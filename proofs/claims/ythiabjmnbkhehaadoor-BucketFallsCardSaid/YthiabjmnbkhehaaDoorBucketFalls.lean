/- What is taken from the highest bucket of a row, one behind the other, falls by labels; all come; of a nil row there is nothing. Conditions: none: every slice of labels, every vertex, every label (of more than a hundred labels the law asks only that the program has buckets at all); the program's two package-level values hold what its text lays into them, and the card ties that to the text. -/
import Derived.Test.YthiabjmnbkhehaaDoorBkAwake
import Derived.Test.YthiabjmnbkhehaaDoorBkLaid
import Derived.Test.YthiabjmnbkhehaaDoorTie
import Derived.Test.YthiabjmnbkhehaaDoorCards
import Derived.SevenTiedAt
import Derived.Deep.Slices
namespace Go.Proofs.YthiabjmnbkhehaaDoor.bucketFalls
open Go.ChangeShapes Go.WideShapes Go.ChangeAt Go.RowKit BkPure
theorem laidOut : laidOutB Tryd.prog = true := by kernel_rfl
theorem put_fall {N k : Nat} {D : List (Nat × Nat)} {l : Int} (h : ∀ p ∈ D, p.1 < k) (hf : fitD N (k : Int) l = true) : (putD N D (k : Int) l).length = D.length + 1 ∧ ∀ p ∈ putD N D (k : Int) l, p.1 < k + 1 := by
  unfold putD
  rw [if_pos hf, drop_none (fun p hp => by have := h p hp; omega), Int.toNat_natCast]
  refine ⟨rfl, fun p hp => ?_⟩
  rcases List.mem_cons.1 hp with rfl | hp
  · exact Nat.lt_succ_self k
  · have := h p hp; omega
theorem put_no {N : Nat} {D : List (Nat × Nat)} {v l : Int} (hf : fitD N v l = false) : putD N D v l = D := by
  unfold putD
  rw [if_neg (by rw [hf]; decide)]
theorem top_in {D : List (Nat × Nat)} (h : 0 < D.length) : ∃ y L, topD D = some (y, L) ∧ (y, L) ∈ D ∧ ∀ p ∈ D, p.2 ≤ L := by
  rcases top_spec D with ⟨e, -⟩ | ⟨v, L, r, h1, h2, h3⟩
  · rw [e] at h; simp at h
  · exact ⟨v, L, h1, mem_bk.1 (by rw [h3]; simp), h2⟩
set_option maxRecDepth 100000 in
set_option maxHeartbeats 8000000 in
theorem walk_list (a : Option Addr) (cap : Nat) (l : List Int) (v lb : Int) (w : World) (hl : ReadsL (encInt .u8) w.heap.size w a l) (hr : ∀ x ∈ l, 0 ≤ x ∧ x ≤ 255) (hm : l.length ≤ maxLen) (hg : GlobAt w) :
    Calls Tryd.prog 4 #[.slice a l.length cap, .int .i64 v, .int .i64 lb] w fun e w' => e = .returned (.bool true) ∧ Below w.heap.size w w' := by
  have HL := Lib.hid (And.intro hl hr)
  have HG := Lib.hid hg
  clear hl hr hg
  by_cases hlen : l.length > 100
  · have t : (l.length : Int) > 100 := by omega
    clear hlen
    go_enter Tryd.func4, Tryd.ntmps4
    go_wp2_with (first | (go_at_call 5; refine (awake_any _ HG.out).mono ?_; rintro e w' ⟨rfl, hb⟩; have HB := Lib.hid hb; clear hb))
    go_ret
    exact ⟨rfl, HB.out⟩
  have t : ¬ (l.length : Int) > 100 := by omega
  have hN : R9.roomN (l.length : Int) = l.length := R9.roomN_of _ (by omega)
  have hlen2 : l.length ≤ 100 := by omega
  clear hlen hm
  go_enter Tryd.func4, Tryd.ntmps4
  go_wp2_with fail
  refine (new_run (l.length : Int) w HG.out).mono ?_
  rintro e w1 ⟨B, rfl, h1⟩
  rw [hN] at h1
  have H1 : Hid (RowIn B w l.length [] w1) := Lib.hid h1
  clear h1 hN
  go_wp2_with fail
  refine (high_nil _).mono ?_
  rintro e w' ⟨rfl, rfl⟩
  go_wp2_with fail
  refine (put_nil _ _ _).mono ?_
  rintro e w' ⟨rfl, rfl⟩
  go_wp2_with fail
  refine (drop_nil _ _ H1.out.2.2.glob).mono ?_
  rintro e w2 ⟨rfl, hb⟩
  have H2 := Lib.hid (H1.out.keep hb)
  clear hb H1
  go_wp2_with fail
  refine (label_nil _ _ H2.out.2.2.glob).mono ?_
  rintro e w3 ⟨rfl, hb⟩
  have H3 := Lib.hid (H2.out.keep hb)
  clear hb H2
  go_wp2_with fail
  refine (count_nil _ _).mono ?_
  rintro e w' ⟨rfl, rfl⟩
  go_wp2_with fail
  refine (above_nil _ _).mono ?_
  rintro e w' ⟨rfl, rfl⟩
  go_wp2_with fail
  refine (len_nil _).mono ?_
  rintro e w' ⟨rfl, rfl⟩
  go_wp2
  go_loopw [12, 13] (fun c i wr => ∃ (k : Nat) (D : List (Nat × Nat)), i = .int .i64 k ∧ c = .int .i64 (D.length : Int) ∧ k ≤ l.length ∧ D.length ≤ k ∧ Hid (RowIn B w l.length D wr ∧ ∀ p ∈ D, p.1 < k)) (fun _ i _ => l.length - (intOf i).toNat)
  case atStart => exact ⟨0, [], rfl, rfl, Nat.zero_le _, Nat.le_refl _, Lib.hid ⟨H3.out, fun p hp => by simp at hp⟩⟩
  case round =>
    obtain ⟨k, D, rfl, rfl, hk, hDk, HK⟩ := hrel
    clear H3
    have i0 : (0 : Int) ≤ (k : Int) := by omega
    by_cases hlt : k < l.length
    · have i1 : (k : Int) < (l.length : Int) := by omega
      obtain ⟨bl, off, rfl, hbN, d0⟩ := HL.out.1.at hlt
      have d1 := (HK.out.1.1.cell (p := ⟨bl, off + k, none⟩) hbN).trans d0
      have d2 : bl < wr.heap.size := Nat.lt_of_lt_of_le hbN HK.out.1.1.size
      obtain ⟨x0, x1⟩ := HL.out.2 _ (List.getElem_mem hlt)
      unfold encInt at d1
      clear d0 hbN
      generalize l[k] = x at *
      go_wp2_with fail
      refine (put_run (k : Int) x wr HK.out.1.2.2).mono ?_
      rintro e w4 ⟨rfl, h4⟩
      have H4 := Lib.hid (HK.out.1.turn h4)
      clear h4 d1
      cases hf : fitD l.length (k : Int) x with
      | true =>
        obtain ⟨g1, g2⟩ := put_fall (D := D) HK.out.2 hf
        have HN := Lib.hid (And.intro H4.out g2)
        clear H4 g2 HK hf
        generalize putD l.length D (k : Int) x = D' at *
        go_wp2
        go_roundw
        case rel => exact ⟨k + 1, D', by go_num, by rw [g1]; go_num, by omega, by omega, HN⟩
        case measure => (simp [intOf] <;> omega)
      | false =>
        have HN : Hid (RowIn B w l.length D w4 ∧ ∀ p ∈ D, p.1 < k + 1) := Lib.hid ⟨by have := H4.out; rwa [put_no hf] at this, fun p hp => Nat.lt_succ_of_lt (HK.out.2 p hp)⟩
        clear H4 HK hf
        go_wp2
        go_roundw
        case rel => exact ⟨k + 1, D, by go_num, rfl, by omega, by omega, HN⟩
        case measure => (simp [intOf] <;> omega)
    · have hke : k = l.length := by omega
      have hge : ¬ (k : Int) < (l.length : Int) := by omega
      have HS : Hid (RowIn B w l.length D wr ∧ ∀ p ∈ D, (p.2 : Int) ≤ 2 * (l.length : Int)) := Lib.hid ⟨HK.out.1, fun p hp => by have := (HK.out.1.2.2.once.2 p hp).2; omega⟩
      have hD9 : D.length ≤ 100 := by omega
      clear HK hDk hke hlt
      go_wp2
      go_loopw [12, 14] (fun c s wz => ∃ (D : List (Nat × Nat)) (x : Int), c = .int .i64 (D.length : Int) ∧ s = .int .i64 x ∧ D.length ≤ 100 ∧ Hid (RowIn B w l.length D wz ∧ ∀ p ∈ D, (p.2 : Int) ≤ x)) (fun c _ _ => (intOf c).toNat)
      case atStart => exact ⟨D, _, rfl, by go_num, hD9, HS⟩
      case round =>
        clear HS hD9
        obtain ⟨D, x, rfl, rfl, hD, HZ⟩ := hrel
        by_cases h0 : 0 < D.length
        · have z1 : (D.length : Int) > 0 := by omega
          obtain ⟨y, L, e1, e2, e3⟩ := top_in h0
          have hx := HZ.out.2 _ e2
          have r1 : ¬ (L : Int) > x := by have : (L : Int) ≤ x := hx; omega
          have hlab := lab_mem HZ.out.1.2.2.once e2
          have HLab : Hid (labD D (y : Int) = (L : Int)) := Lib.hid hlab
          have HWas : Hid (wasD D (y : Int) = true) := Lib.hid (decide_eq_true (by rw [HLab.out]; omega))
          have hlen3 := drop_len HZ.out.1.2.2.once (v := (y : Int)) (by rw [HLab.out]; omega)
          have HFa : Hid (∀ p ∈ dropD D (y : Int), (p.2 : Int) ≤ (L : Int)) := Lib.hid fun p hp => by have := e3 p (mem_drop.1 hp).1; omega
          have HT := Lib.hid e1
          clear e1 e2 e3 hx hlab
          go_wp2_with fail
          refine (high_run wr HZ.out.1.2.2).mono ?_
          rintro e w5 ⟨rfl, h5⟩
          rw [HT.out, show topV (some (y, L)) = (y : Int) from rfl, show topL (some (y, L)) = (L : Int) from rfl, show (some (y, L)).isSome = true from rfl]
          have H5 := Lib.hid (HZ.out.1.turn h5)
          clear h5 HZ
          go_wp2_with fail
          refine (label_run (y : Int) w5 H5.out.2.2).mono ?_
          rintro e w6 ⟨rfl, h6⟩
          rw [HLab.out]
          have H6 := Lib.hid (H5.out.keep h6)
          clear h6 H5
          have tb : ((L : Int) != (L : Int)) = false := bne_self_eq_false _
          go_wp2_with fail
          refine (drop_run (y : Int) w6 H6.out.2.2).mono ?_
          rintro e w7 ⟨rfl, h7⟩
          rw [HWas.out]
          have H7 := Lib.hid (And.intro (H6.out.turn h7) HFa.out)
          clear h7 H6 HFa HLab HWas HT
          generalize dropD D (y : Int) = D' at *
          go_wp2
          go_roundw
          case rel => exact ⟨D', (L : Int), by rw [← hlen3]; go_num, rfl, by omega, H7⟩
          case measure => (simp [intOf] <;> omega)
        · have z1 : ¬ (D.length : Int) > 0 := by omega
          have hD0 : D = [] := List.length_eq_zero_iff.1 (by omega)
          have HZ2 : Hid (RowIn B w l.length [] wr) := Lib.hid (by rw [← hD0]; exact HZ.out.1)
          clear HZ hD0
          go_wp2_with fail
          refine (high_run wr HZ2.out.2.2).mono ?_
          rintro e w5 ⟨rfl, h5⟩
          rw [show topD [] = none from rfl, show topV none = 0 from rfl, show topL none = 0 from rfl, show (none : Option (Nat × Nat)).isSome = false from rfl]
          have H5 := Lib.hid (HZ2.out.turn h5)
          clear h5 HZ2
          go_wp2_with fail
          refine (len_run w5 H5.out.2.2).mono ?_
          rintro e w6 ⟨rfl, rfl⟩
          rw [show (([] : List (Nat × Nat)).length : Int) = 0 from rfl]
          go_wp2_with fail
          refine (awake_any _ H5.out.2.2.glob).mono ?_
          rintro e w7 ⟨rfl, h7⟩
          have H7 := Lib.hid (H5.out.1.trans (h7.mono H5.out.1.size))
          clear h7 H5
          go_wp2
          go_ret
          exact ⟨rfl, H7.out⟩
theorem walk (w : World) (a : Option Addr) (len cap : Nat) (z : List Int) (w0 : IsRow .u8 w a len cap z) (v : Int) (w1 : (Lit.int .i64 v).wf = true) (lb : Int) (w2 : (Lit.int .i64 lb).wf = true) (hT : GlobAt w) :
    Calls Tryd.prog 4 #[.slice a len cap, .int .i64 v, .int .i64 lb] w fun e w' => e = .returned (.bool true) ∧ Below w.heap.size w w' := by
  obtain ⟨l, hl, hwf, hr, hm, -⟩ := row_reads w0
  have := walk_list a cap l v lb w hr (fun x hx => bounds_u8 (hwf x hx)) (by omega) hT
  rwa [hl] at this
set_option maxRecDepth 100000 in
theorem lifted (os : Os) (started : os.Started) (H : Type) (enc : TypeId × Value → H) :
    ReturnsInHanded {} Tryd.checked os 4 .any (fun w args => (Rows.bucketFallsSpec.pre enc Tryd.prog Tryd.f4 [] false w args ∧ laidMetH Tryd.prog Rows.bucketPlaysRow.laid w) ∧ sizedMet enc Tryd.prog Tryd.f4 (OpenSpec.ofChange Rows.bucketFallsSpec) false w args)
      (Rows.bucketFallsSpec.post enc Tryd.prog Tryd.f4 false true false false) := by
  refine returnsInHanded_of_change_and (C := Tryd.checked) (X := fun w _ => laidMetH Tryd.prog Rows.bucketPlaysRow.laid w) (fun _ _ _ hh h => h.of_heap hh) own started (by kernel_rfl) Tryd.func4
    (ChangeSpec.witness_at (enc := enc) (C := Tryd.checked) (os := os) (X := fun w _ => laidMetH Tryd.prog Rows.bucketPlaysRow.laid w) false (laidWorld Tryd.prog os) #[.slice none 0 0, .int .i64 0, .int .i64 0] 8 rfl (by kernel_rfl) (by kernel_rfl) (by kernel_rfl) (by kernel_rfl) (by kernel_rfl) (laid_met os _)) ?_
  intro W base args ds gs before hval0 hW _ _ hL _
  have hval : ∀ (j : Nat) t v, Tryd.f4.params[j]? = some t → args[j]? = some v → Value.okWide Tryd.prog W .any base t v := hval0
  have hW' := hW
  obtain ⟨p, q, hA0, hV, rfl, hfz, hnd⟩ := hW
  have hA : DataW.TrodAll enc Tryd.prog W 0 (fun _ => true) true Tryd.f4.params.toList args.toList ds p := hA0
  rw [Tryd.params4] at hA hval
  obtain ⟨v0, vs0, d0, ds0, p0, q0, hargs, rfl, rfl, h0, r0⟩ := trodAll_cons hA
  obtain ⟨v1, vs1, d1, ds1, p1, q1, rfl, rfl, rfl, h1, r1⟩ := trodAll_cons r0
  obtain ⟨v2, vs2, d2, ds2, p2, q2, rfl, rfl, rfl, h2, r2⟩ := trodAll_cons r1
  obtain ⟨rfl, rfl, rfl⟩ := trodAll_nil r2
  obtain rfl : args = #[v0, v1, v2] := by cases args; simp_all
  obtain ⟨rfl, rfl⟩ := trodVars_none hV
  obtain ⟨a0, len0, cap0, rfl⟩ := okWide_slice Tryd.underlying34 (hval 0 34 v0 rfl rfl)
  have k0 := h0
  have lt0 : ∀ x ∈ p0, x.block < W.heap.size := by obtain ⟨m, hm⟩ := k0; exact DataW.trod_lt m _ _ _ hm
  obtain ⟨z0, w0⟩ : ∃ zs, IsRow .u8 W a0 len0 cap0 zs := by
    obtain ⟨fuel, hf⟩ := h0
    rcases open_ints Tryd.underlying34 Tryd.underlying5 (by kernel_rfl) hf with ⟨hcs, _⟩ | ⟨x, l, c, zs, hcs, _, hl, hm, hz, _, hcell, hwz⟩
    · simp [Value.cells] at hcs
      obtain ⟨rfl, rfl, rfl⟩ := hcs
      exact ⟨[], .inl ⟨rfl, rfl, rfl, rfl⟩⟩
    · simp [Value.cells] at hcs
      obtain ⟨rfl, rfl, rfl⟩ := hcs
      exact ⟨zs, .inr ⟨_, rfl, hl, hm, by simpa using hz, hcell, hwz⟩⟩
  obtain ⟨a1, rfl, rfl, rfl, w1⟩ := open_int Tryd.underlying3 (hval 1 3 v1 rfl rfl) h1
  obtain ⟨a2, rfl, rfl, rfl, w2⟩ := open_int Tryd.underlying3 (hval 2 3 v2 rfl rfl) h2
  clear hA0 hval0
  refine (walk W a0 len0 cap0 z0 w0 a1 w1 a2 w2 (glob_of_laid hL)).mono fun e W' ⟨he, bel⟩ => ?_
  subst he
  exact ⟨_, rfl, _, _, _, [], _, [], hW', trodAll_mk1 (shut_bool Tryd.underlying4 _), (trodAll_cons_mk (Below.trod laidOut (by kernel_rfl) (of_decide_eq_true (by kernel_rfl)) k0 bel lt0) (trodAll_cons_mk (shut_int Tryd.underlying3 w1) (trodAll_cons_mk (shut_int Tryd.underlying3 w2) trodAll_mk0))), rfl, bel.frame _, fun h => by cases h⟩
theorem over : Rows.bucketFallsRow.holds Tryd.pinned (OpenSpec.ofChange Rows.bucketFallsSpec) :=
  OpenClaim.holds_of_wide 4 Tryd.f4 rfl rfl rfl rfl rfl rfl rfl ⟨rfl, rfl, rfl, rfl, rfl⟩ rfl rfl rfl rfl rfl (by kernel_rfl) Tryd.func4 (by kernel_rfl)
    (of_decide_eq_true (by kernel_rfl)) (by unfold Func.isWrapper; first | (rw [if_pos (by decide +kernel)]; kernel_rfl) | (rw [if_neg (by decide +kernel)]; exact ⟨rfl, rfl⟩))
    (fun os started H enc _ => lifted os started H enc)
/-- The statement: the tied card. -/
theorem proved : Rows.BucketFallsCardSaid :=
  Claim7.holds_tied_plain_at .later [] [.data, .data] true Rows.bucketFallsCard.stood.harness Rows.bucketFallsCard.stood.looks
    over (fun _ h => by cases h) (by kernel_rfl) (fun _ h => by cases h) bucketFalls_row_tie rfl ⟨rfl, rfl⟩ (by kernel_rfl) rfl
    (fun f fn hf hfn => by
      obtain rfl : f = 4 := Option.some.inj ((show Tryd.prog.funcNamed Rows.bucketFallsRow.func = some 4 by kernel_rfl).symm.trans hf) |>.symm
      obtain rfl : fn = Tryd.f4 := (Option.some.inj (Tryd.func4.symm.trans hfn)).symm
      exact ⟨by kernel_rfl, fun j t ht => by
        rw [Tryd.params4] at ht
        have hall : ∀ t ∈ #[34, 3, 3], Tryd.prog.wantsStandIn t = false := by decide +kernel
        exact hall t (Array.mem_of_getElem? ht)⟩)
    (by kernel_rfl)
#print axioms proved
end Go.Proofs.YthiabjmnbkhehaaDoor.bucketFalls
