/- The other set of the other set of any list is the set again; both have each vertex once; of a nil set there is nothing. Conditions: none: every room, every slice of numbers, every number (of more than two hundred numbers the law asks only that the program has sets at all); the library's table of de Bruijn holds what the program's text lays into it, and the card ties that to the text. -/
import Derived.Test.YtkhkejfpoaleoaaDoorVsetLaw
import Derived.Test.YtkhkejfpoaleoaaDoorVsetLaid
import Derived.Test.YtkhkejfpoaleoaaDoorTie
import Derived.Test.YtkhkejfpoaleoaaDoorCards
import Derived.SevenTiedAt
import Derived.Deep.Slices
namespace Go.Proofs.YtkhkejfpoaleoaaDoor.vsetOther
open Go.ChangeShapes Go.WideShapes Go.ChangeAt Go.RowKit VsetPure
theorem twice (n : Nat) (p : Nat → Bool) (hp : ∀ v, n ≤ v → p v = false) : otherP n (otherP n p) = p := by
  funext v
  unfold otherP
  by_cases h : v < n
  · simp [h]
  · simp [h, hp v (by omega)]
theorem same_self (n : Nat) (p : Nat → Bool) : sameP n p n p = true := by unfold sameP; simp
theorem half (n : Nat) (p : Nat → Bool) : (listP p n).length + (listP (otherP n p) n).length = n :=
  listP_compl p (otherP n p) n (fun v hv => by unfold otherP; simp [hv])
theorem split (n : Nat) (p : Nat → Bool) (v : Int) : ((fitB n v && p v.toNat) != (fitB n v && otherP n p v.toNat)) = fitB n v := by
  cases h : fitB n v
  · rfl
  · obtain ⟨h0, h1⟩ := fit_yes h
    have : v.toNat < n := by omega
    unfold otherP
    simp [this]
set_option maxHeartbeats 4000000 in
theorem walk_list (n : Int) (h0 : -9223372036854775808 ≤ n) (h1 : n ≤ 9223372036854775807) (a : Option Addr) (cap : Nat) (l : List Int) (v : Int) (w : World) (hl : ReadsL (encInt .i64) w.heap.size w a l) (hm : l.length ≤ maxLen) (hT : TabAt 0 Lib.deBruijn64tab w) :
    Calls Tryd.prog 5 #[.int .i64 n, .slice a l.length cap, .int .i64 v] w fun e w' => e = .returned (.bool true) ∧ Below w.heap.size w w' := by
  have HL := Lib.hid hl
  have HT := Lib.hid hT
  have HM := Lib.hid hm
  clear hl hT hm
  by_cases h200 : 200 < l.length
  · have hm : l.length ≤ 9223372036854775807 := by have := HM.out; unfold maxLen at this; omega
    go_enter Tryd.func5, Tryd.ntmps5
    go_wp2_with fail
    refine (awake_any _ HT.out).mono ?_
    rintro e w1 ⟨rfl, hb1⟩
    have HB := Lib.hid hb1
    clear hb1
    go_wp2
    go_ret
    exact ⟨rfl, HB.out⟩
  have hlen : l.length ≤ 200 := by omega
  clear h200
  go_enter Tryd.func5, Tryd.ntmps5
  go_wp2_with fail
  refine (of_any n h0 h1 a cap l w HL.out (by omega)).mono ?_
  rintro e w1 ⟨rfl, hb1, hs1⟩
  have HB1 := Lib.hid hb1
  have HS1 := Lib.hid hs1
  clear hb1 hs1 h0 h1
  have hm4 := roomN_le n
  generalize ofP (roomN n) l = p at *
  generalize roomN n = m at *
  go_wp2_with fail
  refine (other_any _ _ m p w1 HS1.out).mono ?_
  rintro e w2 ⟨rfl, hb2, hs2⟩
  have HB2 : Hid (Below w.heap.size w w2) := Lib.hid (HB1.out.trans (hb2.mono HB1.out.size))
  have HS2 : Hid (SetAt (w.heap.size + 1) w.heap.size w2 m p) := Lib.hid (HS1.out.keep hb2)
  have HO2 := Lib.hid hs2
  clear hb2 hs2 HB1 HS1
  go_wp2_with (first
    | (go_at_call 24; refine (room_nil _).mono ?_; rintro e w' ⟨rfl, rfl⟩)
    | (go_at_call 11; refine (put_nil _ _).mono ?_; rintro e w' ⟨rfl, rfl⟩)
    | (go_at_call 13; refine (drop_nil _ _).mono ?_; rintro e w' ⟨rfl, d1, rfl⟩)
    | (go_at_call 14; refine (has_nil _ _).mono ?_; rintro e w' ⟨rfl, d2, rfl⟩)
    | (go_at_call 25; refine (len_nil _).mono ?_; rintro e w' ⟨rfl, rfl⟩)
    | fail)
  have hD := below_drewN (Below.refl w2.heap.size w2) (d1 + d2)
  refine (list_nil _).mono ?_
  rintro e w3 ⟨q, c, rfl, hb3⟩
  have hB3 := hD.trans hb3
  have HB3 : Hid (Below w.heap.size w w3) := Lib.hid (HB2.out.trans (hB3.mono HB2.out.size))
  have HS3 : Hid (SetAt (w.heap.size + 1) w.heap.size w3 m p) := Lib.hid (HS2.out.keep hB3)
  have HO3 : Hid (SetAt (w1.heap.size + 1) w1.heap.size w3 m (otherP m p)) := Lib.hid (HO2.out.keep hB3)
  clear hb3 hB3 hD HB2 HS2 HO2
  generalize w1.heap.size = N1 at *
  go_wp2_with (first
    | (go_at_call 16; refine (other_nil _).mono ?_; rintro e w' ⟨rfl, rfl⟩)
    | (go_at_call 15; refine (twin_nil _).mono ?_; rintro e w' ⟨rfl, rfl⟩)
    | fail)
  refine (same_nil _).mono ?_
  rintro e w' ⟨rfl, rfl⟩
  go_wp2_with fail
  refine (same_right _ _).mono ?_
  rintro e w' ⟨rfl, rfl⟩
  go_wp2_with fail
  refine (same_left _ _).mono ?_
  rintro e w' ⟨rfl, rfl⟩
  go_wp2_with fail
  refine (parts_nil _ _ _).mono ?_
  rintro e w' ⟨rfl, rfl⟩
  go_wp2_with fail
  refine (other_any _ _ m (otherP m p) w3 HO3.out).mono ?_
  rintro e w4 ⟨rfl, hb4, hs4⟩
  rw [twice m p HS3.out.2.2.2.1] at hs4
  have HB4 : Hid (Below w.heap.size w w4) := Lib.hid (HB3.out.trans (hb4.mono HB3.out.size))
  have HS4 : Hid (SetAt (w.heap.size + 1) w.heap.size w4 m p) := Lib.hid (HS3.out.keep hb4)
  have HO4 : Hid (SetAt (N1 + 1) N1 w4 m (otherP m p)) := Lib.hid (HO3.out.keep hb4)
  have HT4 := Lib.hid hs4
  clear hb4 hs4 HB3 HS3 HO3
  go_wp2_with fail
  refine (same_any _ _ m _ _ m p p w4 HT4.out HS4.out).mono ?_
  rintro e w5 ⟨rfl, k, rfl⟩
  rw [same_self]
  have HS5 : Hid (∀ i, SetAt (w.heap.size + 1) w.heap.size (w4.drewN i) m p) := Lib.hid (fun i => HS4.out.drawn i)
  have HO5 : Hid (∀ i, SetAt (N1 + 1) N1 (w4.drewN i) m (otherP m p)) := Lib.hid (fun i => HO4.out.drawn i)
  have hroom : ∀ i, (w4.drewN i).cell? ⟨w.heap.size + 1, 0, none⟩ = some (.int .i64 (m : Int)) := fun i => by obtain ⟨ws, -, -, -, t, -⟩ := (HS5.out i).2.2.2.2; exact t.1
  have HRoom := Lib.hid hroom
  clear hroom
  go_wp2_with fail
  refine (len_any _ _ m p _ (HS5.out k)).mono ?_
  rintro e w5 ⟨rfl, rfl⟩
  go_wp2_with fail
  refine (len_any _ _ m (otherP m p) _ (HO5.out k)).mono ?_
  rintro e w5 ⟨rfl, rfl⟩
  have hlen1 := listP_len p m
  have hlen2 := listP_len (otherP m p) m
  have hsum : (((listP p m).length : Int) + ((listP (otherP m p) m).length : Int)) = (m : Int) := by have := half m p; omega
  have hne : ((((listP p m).length : Int) + ((listP (otherP m p) m).length : Int)) != (m : Int)) = false := by rw [hsum]; simp
  clear hsum
  go_wp2_with fail
  refine (room_any _ m _ (HRoom.out k)).mono ?_
  rintro e w5 ⟨rfl, rfl⟩
  have HTab : Hid (∀ i, TabAt 0 Lib.deBruijn64tab (w4.drewN i)) := Lib.hid (fun i => tab_keep HT.out (below_drewN HB4.out i))
  have HB5 := HB4
  clear HS4 HO4 HT4 HB4
  by_cases h0 : 0 ≤ v
  · have t1 : decide (v ≥ 0) = true := decide_eq_true h0
    by_cases h1 : v < (m : Int)
    · have t2 : decide (v < (m : Int)) = true := decide_eq_true h1
      have hf : fitB m v = true := by unfold fitB; rw [decide_eq_true h0, t2]; rfl
      have hvm : v.toNat < m := by omega
      have ho : otherP m p v.toNat = !p v.toNat := by unfold otherP; rw [decide_eq_true hvm, Bool.true_and]
      cases hp : p v.toNat
      · have HX : Hid ((fitB m v && p v.toNat) = false) := Lib.hid (by rw [hf, hp]; rfl)
        have HY : Hid ((fitB m v && otherP m p v.toNat) = true) := Lib.hid (by rw [hf, ho, hp]; rfl)
        clear hp hf hvm ho h0 h1
        go_wp2_with (first | (go_at_call 24; refine (room_any _ m _ (HRoom.out k)).mono ?_; rintro e w5 ⟨rfl, rfl⟩) | fail)
        refine (has_any _ _ m p v _ (HS5.out k)).mono ?_
        rintro e w5 ⟨rfl, i, rfl⟩
        rw [World.drewN_drewN, HX.out]
        go_wp2_with fail
        refine (has_any _ _ m (otherP m p) v _ (HO5.out (k + i))).mono ?_
        rintro e w5 ⟨rfl, i', rfl⟩
        rw [World.drewN_drewN, HY.out]
        go_wp2_with fail
        refine (awake_any _ (HTab.out _)).mono ?_
        rintro e w6 ⟨rfl, hb6⟩
        have HB6 := Lib.hid (HB5.out.trans ((below_drewN (Below.refl _ _) _ |>.trans hb6).mono HB5.out.size))
        clear hb6
        go_wp2
        go_ret
        exact ⟨rfl, HB6.out⟩
      · have HX : Hid ((fitB m v && p v.toNat) = true) := Lib.hid (by rw [hf, hp]; rfl)
        have HY : Hid ((fitB m v && otherP m p v.toNat) = false) := Lib.hid (by rw [hf, ho, hp]; rfl)
        clear hp hf hvm ho h0 h1
        go_wp2_with (first | (go_at_call 24; refine (room_any _ m _ (HRoom.out k)).mono ?_; rintro e w5 ⟨rfl, rfl⟩) | fail)
        refine (has_any _ _ m p v _ (HS5.out k)).mono ?_
        rintro e w5 ⟨rfl, i, rfl⟩
        rw [World.drewN_drewN, HX.out]
        go_wp2_with fail
        refine (has_any _ _ m (otherP m p) v _ (HO5.out (k + i))).mono ?_
        rintro e w5 ⟨rfl, i', rfl⟩
        rw [World.drewN_drewN, HY.out]
        go_wp2_with fail
        refine (awake_any _ (HTab.out _)).mono ?_
        rintro e w6 ⟨rfl, hb6⟩
        have HB6 := Lib.hid (HB5.out.trans ((below_drewN (Below.refl _ _) _ |>.trans hb6).mono HB5.out.size))
        clear hb6
        go_wp2
        go_ret
        exact ⟨rfl, HB6.out⟩
    · have t2 : decide (v < (m : Int)) = false := decide_eq_false h1
      have hf : fitB m v = false := by unfold fitB; rw [t2, Bool.and_false]
      have HX : Hid ((fitB m v && p v.toNat) = false) := Lib.hid (by rw [hf]; rfl)
      have HY : Hid ((fitB m v && otherP m p v.toNat) = false) := Lib.hid (by rw [hf]; rfl)
      clear hf h0 h1
      go_wp2_with (first | (go_at_call 24; refine (room_any _ m _ (HRoom.out k)).mono ?_; rintro e w5 ⟨rfl, rfl⟩) | fail)
      refine (has_any _ _ m p v _ (HS5.out k)).mono ?_
      rintro e w5 ⟨rfl, i, rfl⟩
      rw [World.drewN_drewN, HX.out]
      go_wp2_with fail
      refine (has_any _ _ m (otherP m p) v _ (HO5.out (k + i))).mono ?_
      rintro e w5 ⟨rfl, i', rfl⟩
      rw [World.drewN_drewN, HY.out]
      go_wp2_with fail
      refine (awake_any _ (HTab.out _)).mono ?_
      rintro e w6 ⟨rfl, hb6⟩
      have HB6 := Lib.hid (HB5.out.trans ((below_drewN (Below.refl _ _) _ |>.trans hb6).mono HB5.out.size))
      clear hb6
      go_wp2
      go_ret
      exact ⟨rfl, HB6.out⟩
  · have t1 : decide (v ≥ 0) = false := decide_eq_false h0
    have hf : fitB m v = false := by unfold fitB; rw [decide_eq_false h0, Bool.false_and]
    have HX : Hid ((fitB m v && p v.toNat) = false) := Lib.hid (by rw [hf]; rfl)
    have HY : Hid ((fitB m v && otherP m p v.toNat) = false) := Lib.hid (by rw [hf]; rfl)
    clear hf h0
    go_wp2_with fail
    refine (has_any _ _ m p v _ (HS5.out k)).mono ?_
    rintro e w5 ⟨rfl, i, rfl⟩
    rw [World.drewN_drewN, HX.out]
    go_wp2_with fail
    refine (has_any _ _ m (otherP m p) v _ (HO5.out (k + i))).mono ?_
    rintro e w5 ⟨rfl, i', rfl⟩
    rw [World.drewN_drewN, HY.out]
    go_wp2_with fail
    refine (awake_any _ (HTab.out _)).mono ?_
    rintro e w6 ⟨rfl, hb6⟩
    have HB6 := Lib.hid (HB5.out.trans ((below_drewN (Below.refl _ _) _ |>.trans hb6).mono HB5.out.size))
    clear hb6
    go_wp2
    go_ret
    exact ⟨rfl, HB6.out⟩
theorem walk (w : World) (n : Int) (w0 : (Lit.int .i64 n).wf = true) (a : Option Addr) (len cap : Nat) (z : List Int) (w1 : IsRow .i64 w a len cap z) (v : Int) (w2 : (Lit.int .i64 v).wf = true) (hT : TabAt 0 Lib.deBruijn64tab w) :
    Calls Tryd.prog 5 #[.int .i64 n, .slice a len cap, .int .i64 v] w fun e w' => e = .returned (.bool true) ∧ Below w.heap.size w w' := by
  obtain ⟨h0, h1⟩ := bounds_i64 w0
  obtain ⟨l, hl, -, hr, hm, -⟩ := row_reads w1
  have := walk_list n h0 h1 a cap l v w hr (by omega) hT
  rw [hl] at this
  exact this
theorem laidOut : laidOutB Tryd.prog = true := by kernel_rfl
set_option maxRecDepth 100000 in
theorem lifted (os : Os) (started : os.Started) (H : Type) (enc : TypeId × Value → H) :
    ReturnsInHanded {} Tryd.checked os 5 .any (fun w args => (Rows.vsetOtherSpec.pre enc Tryd.prog Tryd.f5 [] false w args ∧ laidMetH Tryd.prog Rows.vsetPlaysRow.laid w) ∧ sizedMet enc Tryd.prog Tryd.f5 (OpenSpec.ofChange Rows.vsetOtherSpec) false w args)
      (Rows.vsetOtherSpec.post enc Tryd.prog Tryd.f5 false true false false) := by
  refine returnsInHanded_of_change_and (C := Tryd.checked) (X := fun w _ => laidMetH Tryd.prog Rows.vsetPlaysRow.laid w) (fun _ _ _ hh h => h.of_heap hh) own started (by kernel_rfl) Tryd.func5
    (ChangeSpec.witness_at (enc := enc) (C := Tryd.checked) (os := os) (X := fun w _ => laidMetH Tryd.prog Rows.vsetPlaysRow.laid w) false (laidWorld Tryd.prog os) #[.int .i64 0, .slice none 0 0, .int .i64 0] 8 rfl (by kernel_rfl) (by kernel_rfl) (by kernel_rfl) (by kernel_rfl) (by kernel_rfl) (laid_met os _)) ?_
  intro W base args ds gs before hval0 hW _ _ hL _
  have hval : ∀ (j : Nat) t v, Tryd.f5.params[j]? = some t → args[j]? = some v → Value.okWide Tryd.prog W .any base t v := hval0
  have hW' := hW
  obtain ⟨p, q, hA0, hV, rfl, hfz, hnd⟩ := hW
  have hA : DataW.TrodAll enc Tryd.prog W 0 (fun _ => true) true Tryd.f5.params.toList args.toList ds p := hA0
  rw [Tryd.params5] at hA hval
  obtain ⟨v0, vs0, d0, ds0, p0, q0, hargs, rfl, rfl, h0, r0⟩ := trodAll_cons hA
  obtain ⟨v1, vs1, d1, ds1, p1, q1, rfl, rfl, rfl, h1, r1⟩ := trodAll_cons r0
  obtain ⟨v2, vs2, d2, ds2, p2, q2, rfl, rfl, rfl, h2, r2⟩ := trodAll_cons r1
  obtain ⟨rfl, rfl, rfl⟩ := trodAll_nil r2
  obtain rfl : args = #[v0, v1, v2] := by cases args; simp_all
  obtain ⟨rfl, rfl⟩ := trodVars_none hV
  obtain ⟨a0, rfl, rfl, rfl, w0⟩ := open_int Tryd.underlying3 (hval 0 3 v0 rfl rfl) h0
  obtain ⟨a1, len1, cap1, rfl⟩ := okWide_slice Tryd.underlying39 (hval 1 39 v1 rfl rfl)
  have k1 := h1
  have lt1 : ∀ x ∈ p1, x.block < W.heap.size := by obtain ⟨m, hm⟩ := k1; exact DataW.trod_lt m _ _ _ hm
  obtain ⟨z1, w1⟩ : ∃ zs, IsRow .i64 W a1 len1 cap1 zs := by
    obtain ⟨fuel, hf⟩ := h1
    rcases open_ints Tryd.underlying39 Tryd.underlying3 (by kernel_rfl) hf with ⟨hcs, _⟩ | ⟨x, l, c, zs, hcs, _, hl, hm, hz, _, hcell, hwz⟩
    · simp [Value.cells] at hcs
      obtain ⟨rfl, rfl, rfl⟩ := hcs
      exact ⟨[], .inl ⟨rfl, rfl, rfl, rfl⟩⟩
    · simp [Value.cells] at hcs
      obtain ⟨rfl, rfl, rfl⟩ := hcs
      exact ⟨zs, .inr ⟨_, rfl, hl, hm, by simpa using hz, hcell, hwz⟩⟩
  obtain ⟨a2, rfl, rfl, rfl, w2⟩ := open_int Tryd.underlying3 (hval 2 3 v2 rfl rfl) h2
  clear hA0 hval0
  refine (walk W a0 w0 a1 len1 cap1 z1 w1 a2 w2 (tab_of_laid hL)).mono fun e W' ⟨he, bel⟩ => ?_
  subst he
  exact ⟨_, rfl, _, _, _, [], _, [], hW', trodAll_mk1 (shut_bool Tryd.underlying4 _), (trodAll_cons_mk (shut_int Tryd.underlying3 w0) (trodAll_cons_mk (Below.trod laidOut (by kernel_rfl) (of_decide_eq_true (by kernel_rfl)) k1 bel lt1) (trodAll_cons_mk (shut_int Tryd.underlying3 w2) trodAll_mk0))), rfl, bel.frame _, fun h => by cases h⟩
theorem over : Rows.vsetOtherRow.holds Tryd.pinned (OpenSpec.ofChange Rows.vsetOtherSpec) :=
  OpenClaim.holds_of_wide 5 Tryd.f5 rfl rfl rfl rfl rfl rfl rfl ⟨rfl, rfl, rfl, rfl, rfl⟩ rfl rfl rfl rfl rfl (by kernel_rfl) Tryd.func5 (by kernel_rfl)
    (of_decide_eq_true (by kernel_rfl)) (by unfold Func.isWrapper; first | (rw [if_pos (by decide +kernel)]; kernel_rfl) | (rw [if_neg (by decide +kernel)]; exact ⟨rfl, rfl⟩))
    (fun os started H enc _ => lifted os started H enc)
/-- The statement: the tied card. -/
theorem proved : Rows.VsetOtherCardSaid :=
  Claim7.holds_tied_plain_at .later [] [.data] true Rows.vsetOtherCard.stood.harness Rows.vsetOtherCard.stood.looks
    over (fun _ h => by cases h) (by kernel_rfl) (fun _ h => by cases h) vsetOther_row_tie rfl ⟨rfl, rfl⟩ (by kernel_rfl) rfl
    (fun f fn hf hfn => by
      obtain rfl : f = 5 := Option.some.inj ((show Tryd.prog.funcNamed Rows.vsetOtherRow.func = some 5 by kernel_rfl).symm.trans hf) |>.symm
      obtain rfl : fn = Tryd.f5 := (Option.some.inj (Tryd.func5.symm.trans hfn)).symm
      exact ⟨by kernel_rfl, fun j t ht => by
        rw [Tryd.params5] at ht
        have hall : ∀ t ∈ #[3, 39, 3], Tryd.prog.wantsStandIn t = false := by decide +kernel
        exact hall t (Array.mem_of_getElem? ht)⟩)
    (by kernel_rfl)
#print axioms proved
end Go.Proofs.YtkhkejfpoaleoaaDoor.vsetOther
