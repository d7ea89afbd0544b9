/- What the program reads of a text of numbers is what the document says: the numbers, or the first part that is none; and so is the text of any numbers. Conditions: none: every text, every slice of numbers (of a text of more than a thousand bytes, and of more than a hundred numbers, the law asks only that the program reads digits at all); the library's tables hold what the program's text lays into them, and the card ties that to the text. -/
import Derived.Test.YtdianpdjcgcifaaDoorDecRefRead
import Derived.Test.YtdianpdjcgcifaaDoorDecAwake
import Derived.Test.YtdianpdjcgcifaaDoorSame
import Derived.Test.YtdianpdjcgcifaaDoorTie
import Derived.Test.YtdianpdjcgcifaaDoorCards
import Derived.OpenShut
import Derived.ShutString
import Derived.SevenTiedAt
import Derived.Carry
namespace Go.Proofs.YtdianpdjcgcifaaDoor.decLists
open Go.ChangeShapes Go.WideShapes Go.ChangeAt Go.RowKit DecPure First
open Go.ChangeMaps (open_string shut_string)
set_option maxRecDepth 100000 in
set_option maxHeartbeats 2000000 in
theorem walk_lists (s : ByteArray) (hs : s.size ≤ maxLen) (a : Option Addr) (cap : Nat) (l : List Int) (hr : RngL l) (w : World) (hl : ReadsL (encInt .i64) w.heap.size w a l) (hm : l.length ≤ maxLen) (hT : Ten w) :
    Calls Tryd.prog 4 #[.string s, .slice a l.length cap] w fun e w' => e = .returned (.bool true) ∧ Below w.heap.size w w' := by
  have HT := Lib.hid hT
  have HL := Lib.hid hl
  have HR := Lib.hid hr
  have hm1 : s.size ≤ 9223372036854775807 := by unfold maxLen at hs; omega
  have hm2 : l.length ≤ 9223372036854775807 := by unfold maxLen at hm; omega
  clear hT hl hr hs hm
  by_cases hbig : 1000 < s.size ∨ (¬ 1000 < s.size ∧ 100 < l.length)
  · have HC := Lib.hid (decAwake_any w HT.out)
    rcases hbig with hbig | ⟨hbig, hbig2⟩
    all_goals
      go_enter Tryd.func4, Tryd.ntmps4
      go_wp2_with fail
      refine HC.out.mono ?_
      rintro e w1 ⟨rfl, hb1⟩
      have HB := Lib.hid hb1
      clear hb1
      go_wp2
      go_ret
      exact ⟨rfl, HB.out⟩
  have hs : s.size ≤ 1000 := by omega
  have hlen : l.length ≤ 100 := by omega
  clear hbig
  have hrl : (readL s.data.toList).length ≤ 1000000 := by
    have h1 := parts_len s.data.toList
    have h2 := Lib.size_eq s
    unfold readL
    rw [List.length_map]; omega
  have HRD := Lib.hid (fun w => read_any s (by omega) w)
  have HRR := Lib.hid (fun w => refRead_any s (by omega) w)
  obtain ⟨X, hX⟩ : ∃ X : ByteArray, X = ⟨(listT l).toArray⟩ := ⟨_, rfl⟩
  have HLI : Hid (∀ w, ReadsL (encInt .i64) w.heap.size w a l → Ten w → Calls Tryd.prog 16 #[.slice a l.length cap] w fun e w' => e = .returned (.string X) ∧ Below w.heap.size w w') := Lib.hid fun w h1 h2 => by rw [hX]; exact list_any a cap l w HR.out h1 (by omega) h2
  have HLR : Hid (∀ w, ReadsL (encInt .i64) w.heap.size w a l → Calls Tryd.prog 17 #[.slice a l.length cap] w fun e w' => e = .returned (.string X) ∧ Below w.heap.size w w') := Lib.hid fun w h1 => by rw [hX]; exact refList_any a cap l w HR.out h1 (by omega)
  clear hX
  unfold ReadOut at HRD
  unfold DocOut at HRR
  generalize readE s.data.toList = re at *
  generalize readAt s.data.toList = ra at *
  generalize readL s.data.toList = rl at *
  go_enter Tryd.func4, Tryd.ntmps4
  go_wp2_with fail
  refine (HRD.out w).mono ?_
  rintro e w1 ⟨ho1, hb1⟩
  have HB1 := Lib.hid hb1
  clear hb1
  rcases ho1 with ⟨h0, h1, p, cp, rfl, hp⟩ | ⟨h0, rfl⟩
  · subst h0 h1
    have HP1 := Lib.hid hp
    clear hp
    go_wp2_with fail
    refine (HRR.out w1).mono ?_
    rintro e w2 ⟨ho2, hb2⟩
    have HB2 := Lib.hid (HB1.out.trans (hb2.mono HB1.out.size))
    have HP2 := Lib.hid (HP1.out.over hb2 (Nat.le_refl _))
    clear hb2
    obtain ⟨q, cq, rfl, hq⟩ : ∃ q cq, e = .returned (.agg #[.slice q rl.length cq, .int .i64 0, .int .i64 0]) ∧ ReadsL (encInt .i64) w2.heap.size w2 q rl := by
      rcases ho2 with ⟨-, -, q, cq, h, hq⟩ | ⟨h, -⟩
      · exact ⟨q, cq, h, hq⟩
      · exact absurd rfl h
    clear ho2
    have hb3 := (Below.refl w2.heap.size w2).alloc (Nat.le_refl _) (.cells #[.slice q rl.length cq, .int .i64 0, .int .i64 0] 37)
    have HP3 := Lib.hid (HP2.out.over hb3 (Nat.le_refl _))
    have HQ3 := Lib.hid (hq.over hb3 (Nat.le_refl _))
    have h3 := Lib.hid (ThreeAt.new w2 (.slice q rl.length cq) (.int .i64 0) (.int .i64 0) 37)
    have HB3 := Lib.hid (HB2.out.trans (hb3.mono HB2.out.size))
    clear hb3 hq
    go_wp2_with fail
    refine (sameL_any p q cp cq rl _ HP3.out HQ3.out hrl).mono ?_
    rintro e w4 ⟨rfl, hb4⟩
    have HB4 := Lib.hid (HB3.out.trans (hb4.mono HB3.out.size))
    obtain ⟨c0, c1, c2, -, -, -⟩ := h3.out.on hb4 h3.out.lt
    clear hb4
    go_wp2_with fail
    refine (HLI.out w4 (HL.out.over HB4.out (Nat.le_refl _)) (HT.out.on HB4.out)).mono ?_
    rintro e w5 ⟨rfl, hb5⟩
    have HB5 := Lib.hid (HB4.out.trans (hb5.mono HB4.out.size))
    clear hb5
    go_wp2_with fail
    refine (HLR.out w5 (HL.out.over HB5.out (Nat.le_refl _))).mono ?_
    rintro e w6 ⟨rfl, hb6⟩
    have HB6 := Lib.hid (HB5.out.trans (hb6.mono HB5.out.size))
    clear hb6
    go_wp2_with fail
    refine (decAwake_any w6 (HT.out.on HB6.out)).mono ?_
    rintro e w7 ⟨rfl, hb7⟩
    have HB7 := Lib.hid (HB6.out.trans (hb7.mono HB6.out.size))
    clear hb7
    go_wp2
    go_ret
    exact ⟨rfl, HB7.out⟩
  · have H0 := Lib.hid h0
    clear h0
    go_wp2_with fail
    refine (HRR.out w1).mono ?_
    rintro e w2 ⟨ho2, hb2⟩
    have HB2 := Lib.hid (HB1.out.trans (hb2.mono HB1.out.size))
    clear hb2
    obtain rfl : e = .returned (.agg #[.slice none 0 0, .int .i64 re, .int .i64 ra]) := by
      rcases ho2 with ⟨h, -⟩ | ⟨-, h⟩
      · exact absurd h H0.out
      · exact h
    clear ho2
    have hb3 := (Below.refl w2.heap.size w2).alloc (Nat.le_refl _) (.cells #[.slice none 0 0, .int .i64 re, .int .i64 ra] 37)
    have h3 := Lib.hid (ThreeAt.new w2 (.slice none 0 0) (.int .i64 re) (.int .i64 ra) 37)
    have HB3 := Lib.hid (HB2.out.trans (hb3.mono HB2.out.size))
    clear hb3
    go_wp2_with fail
    refine (sameL_any none none 0 0 [] _ (ReadsL.nil _ _ _ _) (ReadsL.nil _ _ _ _) (by simp)).mono ?_
    rintro e w4 ⟨rfl, hb4⟩
    have HB4 := Lib.hid (HB3.out.trans (hb4.mono HB3.out.size))
    obtain ⟨c0, c1, c2, -, -, -⟩ := h3.out.on hb4 h3.out.lt
    clear hb4
    go_wp2_with fail
    refine (HLI.out w4 (HL.out.over HB4.out (Nat.le_refl _)) (HT.out.on HB4.out)).mono ?_
    rintro e w5 ⟨rfl, hb5⟩
    have HB5 := Lib.hid (HB4.out.trans (hb5.mono HB4.out.size))
    clear hb5
    go_wp2_with fail
    refine (HLR.out w5 (HL.out.over HB5.out (Nat.le_refl _))).mono ?_
    rintro e w6 ⟨rfl, hb6⟩
    have HB6 := Lib.hid (HB5.out.trans (hb6.mono HB5.out.size))
    clear hb6
    go_wp2_with fail
    refine (decAwake_any w6 (HT.out.on HB6.out)).mono ?_
    rintro e w7 ⟨rfl, hb7⟩
    have HB7 := Lib.hid (HB6.out.trans (hb7.mono HB6.out.size))
    clear hb7
    go_wp2
    go_ret
    exact ⟨rfl, HB7.out⟩
theorem laidOut : laidOutB Tryd.prog = true := by kernel_rfl
theorem walk (w : World) (s : ByteArray) (ws : s.size ≤ maxLen) (a1 : Option Addr) (len1 cap1 : Nat) (z1 : List Int) (w1 : IsRow .i64 w a1 len1 cap1 z1) (hT : Ten w) :
    Calls Tryd.prog 4 #[.string s, .slice a1 len1 cap1] w fun e w' => e = .returned (.bool true) ∧ Below w.heap.size w w' := by
  obtain ⟨l, rfl, h2, h3, h4, -⟩ := row_reads w1
  exact walk_lists s ws a1 cap1 l (fun n hn => bounds_i64 (h2 n hn)) w h3 h4 hT
set_option maxRecDepth 100000 in
theorem lifted (os : Os) (started : os.Started) (H : Type) (enc : TypeId × Value → H) :
    ReturnsInHanded {} Tryd.checked os 4 .any (fun w args => (Rows.decListsSpec.pre enc Tryd.prog Tryd.f4 [] false w args ∧ laidMetH Tryd.prog Rows.decTellsRow.laid w) ∧ sizedMet enc Tryd.prog Tryd.f4 (OpenSpec.ofChange Rows.decListsSpec) false w args)
      (Rows.decListsSpec.post enc Tryd.prog Tryd.f4 false true false false) := by
  refine returnsInHanded_of_change_and (C := Tryd.checked) (X := fun w _ => laidMetH Tryd.prog Rows.decTellsRow.laid w) (fun _ _ _ hh h => h.of_heap hh) own started (by kernel_rfl) Tryd.func4
    (ChangeSpec.witness_at (enc := enc) (C := Tryd.checked) (os := os) (X := fun w _ => laidMetH Tryd.prog Rows.decTellsRow.laid w) false (laidWorld Tryd.prog os) #[.string ⟨#[]⟩, .slice none 0 0] 8 rfl (by kernel_rfl) (by kernel_rfl) (by kernel_rfl) (by kernel_rfl) (by kernel_rfl) (laid_met os _)) ?_
  intro W base args ds gs before hval0 hW _ _ hL _
  have hval : ∀ (j : Nat) t v, Tryd.f4.params[j]? = some t → args[j]? = some v → Value.okWide Tryd.prog W .any base t v := hval0
  have hW' := hW
  obtain ⟨p, q, hA0, hV, rfl, hfz, hnd⟩ := hW
  have hA : DataW.TrodAll enc Tryd.prog W 0 (fun _ => true) true Tryd.f4.params.toList args.toList ds p := hA0
  rw [Tryd.params4] at hA hval
  obtain ⟨v0, vs0, d0, ds0, p0, q0, hargs, rfl, rfl, h0, r0⟩ := trodAll_cons hA
  obtain ⟨v1, vs1, d1, ds1, p1, q1, rfl, rfl, rfl, h1, r1⟩ := trodAll_cons r0
  obtain ⟨rfl, rfl, rfl⟩ := trodAll_nil r1
  obtain rfl : args = #[v0, v1] := by cases args; simp_all
  obtain ⟨rfl, rfl⟩ := trodVars_none hV
  obtain ⟨a0, rfl, rfl, rfl, w0⟩ := open_string Tryd.underlying9 (hval 0 9 v0 rfl rfl) h0
  obtain ⟨a1, len1, cap1, rfl⟩ := okWide_slice Tryd.underlying33 (hval 1 33 v1 rfl rfl)
  have k1 := h1
  have lt1 : ∀ x ∈ p1, x.block < W.heap.size := by obtain ⟨m, hm⟩ := k1; exact DataW.trod_lt m _ _ _ hm
  obtain ⟨z1, w1⟩ : ∃ zs, IsRow .i64 W a1 len1 cap1 zs := by
    obtain ⟨fuel, hf⟩ := h1
    rcases open_ints Tryd.underlying33 Tryd.underlying2 (by kernel_rfl) hf with ⟨hcs, _⟩ | ⟨x, l, c, zs, hcs, _, hl, hm, hz, _, hcell, hwz⟩
    · simp [Value.cells] at hcs
      obtain ⟨rfl, rfl, rfl⟩ := hcs
      exact ⟨[], .inl ⟨rfl, rfl, rfl, rfl⟩⟩
    · simp [Value.cells] at hcs
      obtain ⟨rfl, rfl, rfl⟩ := hcs
      exact ⟨zs, .inr ⟨_, rfl, hl, hm, by simpa using hz, hcell, hwz⟩⟩
  clear hA0 hval0
  refine (walk W a0 w0 a1 len1 cap1 z1 w1 (ten_of_laid hL)).mono fun e W' ⟨he, bel⟩ => ?_
  subst he
  exact ⟨_, rfl, _, _, _, [], _, [], hW', trodAll_mk1 (shut_bool Tryd.underlying4 _), (trodAll_cons_mk (shut_string Tryd.underlying9 w0) (trodAll_cons_mk (Below.trod laidOut (by kernel_rfl) (of_decide_eq_true (by kernel_rfl)) k1 bel lt1) trodAll_mk0)), rfl, bel.frame _, fun h => by cases h⟩
theorem over : Rows.decListsRow.holds Tryd.pinned (OpenSpec.ofChange Rows.decListsSpec) :=
  OpenClaim.holds_of_wide 4 Tryd.f4 rfl rfl rfl rfl rfl rfl rfl ⟨rfl, rfl, rfl, rfl, rfl⟩ rfl rfl rfl rfl rfl (by kernel_rfl) Tryd.func4 (by kernel_rfl)
    (of_decide_eq_true (by kernel_rfl)) (by unfold Func.isWrapper; first | (rw [if_pos (by decide +kernel)]; kernel_rfl) | (rw [if_neg (by decide +kernel)]; exact ⟨rfl, rfl⟩))
    (fun os started H enc _ => lifted os started H enc)
/-- The statement: the tied card. -/
theorem proved : Rows.DecListsCardSaid :=
  Claim7.holds_tied_plain_at .later [] [.data, .data, .data] true Rows.decListsCard.stood.harness Rows.decListsCard.stood.looks
    over (fun _ h => by cases h) (by kernel_rfl) (fun _ h => by cases h) decLists_row_tie rfl ⟨rfl, rfl⟩ (by kernel_rfl) rfl
    (fun f fn hf hfn => by
      obtain rfl : f = 4 := Option.some.inj ((show Tryd.prog.funcNamed Rows.decListsRow.func = some 4 by kernel_rfl).symm.trans hf) |>.symm
      obtain rfl : fn = Tryd.f4 := (Option.some.inj (Tryd.func4.symm.trans hfn)).symm
      exact ⟨by kernel_rfl, fun j t ht => by
        rw [Tryd.params4] at ht
        have hall : ∀ t ∈ #[9, 33], Tryd.prog.wantsStandIn t = false := by decide +kernel
        exact hall t (Array.mem_of_getElem? ht)⟩)
    (by kernel_rfl)
#print axioms proved
end Go.Proofs.YtdianpdjcgcifaaDoor.decLists
