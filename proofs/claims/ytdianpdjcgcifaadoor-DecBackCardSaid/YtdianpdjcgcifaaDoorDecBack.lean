/- And back: numbers that the program prints are read as they were; what it reads of any text has just this text. Conditions: none: every text, every slice of numbers (of a text of more than a thousand bytes, and of more than a hundred numbers, the law asks only that the program reads digits at all); the library's tables hold what the program's text lays into them, and the card ties that to the text. -/
import Derived.Test.YtdianpdjcgcifaaDoorDecAwake
import Derived.Test.YtdianpdjcgcifaaDoorSame
import Derived.Test.YtdianpdjcgcifaaDoorTie
import Derived.Test.YtdianpdjcgcifaaDoorCards
import Derived.OpenShut
import Derived.ShutString
import Derived.SevenTiedAt
import Derived.Carry
namespace Go.Proofs.YtdianpdjcgcifaaDoor.decBack
open Go.ChangeShapes Go.WideShapes Go.ChangeAt Go.RowKit DecPure First
open Go.ChangeMaps (open_string shut_string)
set_option maxRecDepth 100000 in
set_option maxHeartbeats 4000000 in
theorem walk_back (s : ByteArray) (hs : s.size ≤ maxLen) (a : Option Addr) (cap : Nat) (l : List Int) (hr : RngL l) (w : World) (hl : ReadsL (encInt .i64) w.heap.size w a l) (hm : l.length ≤ maxLen) (hT : Ten w) :
    Calls Tryd.prog 5 #[.string s, .slice a l.length cap] w fun e w' => e = .returned (.bool true) ∧ Below w.heap.size w w' := by
  have HT := Lib.hid hT
  have HL := Lib.hid hl
  have HR := Lib.hid hr
  have hm1 : s.size ≤ 9223372036854775807 := by unfold maxLen at hs; omega
  have hm2 : l.length ≤ 9223372036854775807 := by unfold maxLen at hm; omega
  clear hT hl hr hs hm
  by_cases hbig : 1000 < s.size ∨ (¬ 1000 < s.size ∧ 100 < l.length)
  · have HC := Lib.hid (decAwake_any w HT.out)
    rcases hbig with hbig | ⟨hbig, hbig2⟩
    all_goals
      go_enter Tryd.func5, Tryd.ntmps5
      go_wp2_with fail
      refine HC.out.mono ?_
      rintro e w1 ⟨rfl, hb1⟩
      have HB := Lib.hid hb1
      clear hb1
      go_wp2
      go_ret
      exact ⟨rfl, HB.out⟩
  have hs : s.size ≤ 1000 := by omega
  have hlen : l.length ≤ 100 := by omega
  clear hbig
  have hrl : (readL s.data.toList).length ≤ 100000 := by
    have h1 := parts_len s.data.toList
    have h2 := Lib.size_eq s
    unfold readL
    rw [List.length_map]; omega
  obtain ⟨X, hX⟩ : ∃ X : ByteArray, X = ⟨(listT l).toArray⟩ := ⟨_, rfl⟩
  have hXl : X.data.toList = listT l := by rw [hX]
  have HXS : Hid (X.size ≤ 1000000) := Lib.hid (by have h1 := list_len l HR.out; rw [Lib.size_eq, hXl]; omega)
  have HLI : Hid (∀ w, ReadsL (encInt .i64) w.heap.size w a l → Ten w → Calls Tryd.prog 16 #[.slice a l.length cap] w fun e w' => e = .returned (.string X) ∧ Below w.heap.size w w') := Lib.hid fun w h1 h2 => by rw [hX]; exact list_any a cap l w HR.out h1 (by omega) h2
  have HRX : Hid (∀ w, Calls Tryd.prog 13 #[.string X] w fun e w' => (∃ p cp, e = .returned (.tuple #[.slice p l.length cp, .int .i64 0, .int .i64 0]) ∧ ReadsL (encInt .i64) w'.heap.size w' p l) ∧ Below w.heap.size w w') := Lib.hid fun w => by
    refine (read_any X HXS.out w).mono fun e w' ⟨ho, hb⟩ => ⟨?_, hb⟩
    rw [hXl] at ho
    obtain ⟨g1, g2⟩ := read_list l HR.out
    rcases ho with ⟨-, -, p, cp, he, hp⟩ | ⟨h, -⟩
    · rw [g2] at he hp; exact ⟨p, cp, he, hp⟩
    · exact absurd g1 h
  have HRS := Lib.hid (fun w => read_any s (by omega) w)
  have HPS := Lib.hid (fun w => parse_any s w)
  have HLB : Hid (readE s.data.toList = 0 → ∀ w p cp, ReadsL (encInt .i64) w.heap.size w p (readL s.data.toList) → Ten w → Calls Tryd.prog 16 #[.slice p (readL s.data.toList).length cp] w fun e w' => e = .returned (.string s) ∧ Below w.heap.size w w') := Lib.hid fun h0 w p cp h1 h2 => by
    have h := list_any p cp (readL s.data.toList) w (read_rng _) h1 hrl h2
    rw [list_read h0, Lib.mk_data s] at h
    exact h
  have HPB : Hid (parseE s.data.toList = 0 → ∀ w, Ten w → Calls Tryd.prog 11 #[.int .i64 (parseN s.data.toList)] w fun e w' => e = .returned (.string s) ∧ Below w.heap.size w w') := Lib.hid fun h0 w h2 => by
    have hb := parse_rng s.data.toList
    have h := print_any (parseN s.data.toList) hb.1 hb.2 w h2
    rw [itoa_parse h0, Lib.mk_data s] at h
    exact h
  clear hX hXl
  unfold ReadOut at HRS
  generalize readE s.data.toList = re at *
  generalize readAt s.data.toList = ra at *
  generalize readL s.data.toList = rl at *
  generalize parseE s.data.toList = pe at *
  generalize parseN s.data.toList = pn at *
  go_enter Tryd.func5, Tryd.ntmps5
  go_wp2_with fail
  refine (HLI.out w HL.out HT.out).mono ?_
  rintro e w1 ⟨rfl, hb1⟩
  have HB1 := Lib.hid hb1
  clear hb1
  go_wp2_with fail
  refine (HRX.out w1).mono ?_
  rintro e w2 ⟨⟨p, cp, rfl, hp⟩, hb2⟩
  have HB2 := Lib.hid (HB1.out.trans (hb2.mono HB1.out.size))
  have HP2 := Lib.hid hp
  clear hb2 hp
  go_wp2_with fail
  refine (HRS.out w2).mono ?_
  rintro e w3 ⟨ho3, hb3⟩
  have HB3 := Lib.hid (HB2.out.trans (hb3.mono HB2.out.size))
  have HP3 := Lib.hid (HP2.out.over hb3 (Nat.le_refl _))
  clear hb3
  rcases ho3 with ⟨h0, -, q, cq, rfl, hq⟩ | ⟨h0, rfl⟩
  · subst h0
    have HQ3 := Lib.hid hq
    clear hq
    go_wp2_with fail
    refine (HPS.out w3).mono ?_
    rintro e w4 ⟨rfl, hb4⟩
    have HB4 := Lib.hid (HB3.out.trans (hb4.mono HB3.out.size))
    have HP4 := Lib.hid (HP3.out.over hb4 (Nat.le_refl _))
    have HQ4 := Lib.hid (HQ3.out.over hb4 (Nat.le_refl _))
    clear hb4
    by_cases hpe : pe = 0
    · subst hpe
      go_wp2_with fail
      refine (sameL_any p a cp cap l w4 HP4.out (HL.out.over HB4.out (Nat.le_refl _)) (by omega)).mono ?_
      rintro e w5 ⟨rfl, hb5⟩
      have HB5 := Lib.hid (HB4.out.trans (hb5.mono HB4.out.size))
      have HQ5 := Lib.hid (HQ4.out.over hb5 (Nat.le_refl _))
      clear hb5
      go_wp2_with fail
      refine (HLB.out (by trivial) w5 q cq HQ5.out (HT.out.on HB5.out)).mono ?_
      rintro e w6 ⟨rfl, hb6⟩
      have HB6 := Lib.hid (HB5.out.trans (hb6.mono HB5.out.size))
      clear hb6
      go_wp2_with fail
      refine (HPB.out (by trivial) w6 (HT.out.on HB6.out)).mono ?_
      rintro e w7 ⟨rfl, hb7⟩
      have HB7 := Lib.hid (HB6.out.trans (hb7.mono HB6.out.size))
      clear hb7
      go_wp2_with fail
      refine (decAwake_any w7 (HT.out.on HB7.out)).mono ?_
      rintro e w8 ⟨rfl, hb8⟩
      have HB8 := Lib.hid (HB7.out.trans (hb8.mono HB7.out.size))
      clear hb8
      go_wp2
      go_ret
      exact ⟨rfl, HB8.out⟩
    · have t : (pe != 0) = true := by simpa using hpe
      have t2 : (pe == 0) = false := by simpa using hpe
      clear hpe
      go_wp2_with fail
      refine (sameL_any p a cp cap l w4 HP4.out (HL.out.over HB4.out (Nat.le_refl _)) (by omega)).mono ?_
      rintro e w5 ⟨rfl, hb5⟩
      have HB5 := Lib.hid (HB4.out.trans (hb5.mono HB4.out.size))
      have HQ5 := Lib.hid (HQ4.out.over hb5 (Nat.le_refl _))
      clear hb5
      go_wp2_with fail
      refine (HLB.out (by trivial) w5 q cq HQ5.out (HT.out.on HB5.out)).mono ?_
      rintro e w6 ⟨rfl, hb6⟩
      have HB6 := Lib.hid (HB5.out.trans (hb6.mono HB5.out.size))
      clear hb6
      go_wp2_with fail
      refine (decAwake_any w6 (HT.out.on HB6.out)).mono ?_
      rintro e w8 ⟨rfl, hb8⟩
      have HB8 := Lib.hid (HB6.out.trans (hb8.mono HB6.out.size))
      clear hb8
      go_wp2
      go_ret
      exact ⟨rfl, HB8.out⟩
  · have r1 : (re != 0) = true := by simpa using h0
    have r2 : (re == 0) = false := by simpa using h0
    clear h0
    go_wp2_with fail
    refine (HPS.out w3).mono ?_
    rintro e w4 ⟨rfl, hb4⟩
    have HB4 := Lib.hid (HB3.out.trans (hb4.mono HB3.out.size))
    have HP4 := Lib.hid (HP3.out.over hb4 (Nat.le_refl _))
    clear hb4
    by_cases hpe : pe = 0
    · subst hpe
      go_wp2_with fail
      refine (sameL_any p a cp cap l w4 HP4.out (HL.out.over HB4.out (Nat.le_refl _)) (by omega)).mono ?_
      rintro e w5 ⟨rfl, hb5⟩
      have HB5 := Lib.hid (HB4.out.trans (hb5.mono HB4.out.size))
      clear hb5
      have HB6 := HB5
      go_wp2_with fail
      refine (HPB.out (by trivial) w5 (HT.out.on HB6.out)).mono ?_
      rintro e w7 ⟨rfl, hb7⟩
      have HB7 := Lib.hid (HB6.out.trans (hb7.mono HB6.out.size))
      clear hb7
      go_wp2_with fail
      refine (decAwake_any w7 (HT.out.on HB7.out)).mono ?_
      rintro e w8 ⟨rfl, hb8⟩
      have HB8 := Lib.hid (HB7.out.trans (hb8.mono HB7.out.size))
      clear hb8
      go_wp2
      go_ret
      exact ⟨rfl, HB8.out⟩
    · have t : (pe != 0) = true := by simpa using hpe
      have t2 : (pe == 0) = false := by simpa using hpe
      clear hpe
      go_wp2_with fail
      refine (sameL_any p a cp cap l w4 HP4.out (HL.out.over HB4.out (Nat.le_refl _)) (by omega)).mono ?_
      rintro e w5 ⟨rfl, hb5⟩
      have HB5 := Lib.hid (HB4.out.trans (hb5.mono HB4.out.size))
      clear hb5
      have HB6 := HB5
      go_wp2_with fail
      refine (decAwake_any w5 (HT.out.on HB6.out)).mono ?_
      rintro e w8 ⟨rfl, hb8⟩
      have HB8 := Lib.hid (HB6.out.trans (hb8.mono HB6.out.size))
      clear hb8
      go_wp2
      go_ret
      exact ⟨rfl, HB8.out⟩
theorem laidOut : laidOutB Tryd.prog = true := by kernel_rfl
theorem walk (w : World) (s : ByteArray) (ws : s.size ≤ maxLen) (a1 : Option Addr) (len1 cap1 : Nat) (z1 : List Int) (w1 : IsRow .i64 w a1 len1 cap1 z1) (hT : Ten w) :
    Calls Tryd.prog 5 #[.string s, .slice a1 len1 cap1] w fun e w' => e = .returned (.bool true) ∧ Below w.heap.size w w' := by
  obtain ⟨l, rfl, h2, h3, h4, -⟩ := row_reads w1
  exact walk_back s ws a1 cap1 l (fun n hn => bounds_i64 (h2 n hn)) w h3 h4 hT
set_option maxRecDepth 100000 in
theorem lifted (os : Os) (started : os.Started) (H : Type) (enc : TypeId × Value → H) :
    ReturnsInHanded {} Tryd.checked os 5 .any (fun w args => (Rows.decBackSpec.pre enc Tryd.prog Tryd.f5 [] false w args ∧ laidMetH Tryd.prog Rows.decTellsRow.laid w) ∧ sizedMet enc Tryd.prog Tryd.f5 (OpenSpec.ofChange Rows.decBackSpec) false w args)
      (Rows.decBackSpec.post enc Tryd.prog Tryd.f5 false true false false) := by
  refine returnsInHanded_of_change_and (C := Tryd.checked) (X := fun w _ => laidMetH Tryd.prog Rows.decTellsRow.laid w) (fun _ _ _ hh h => h.of_heap hh) own started (by kernel_rfl) Tryd.func5
    (ChangeSpec.witness_at (enc := enc) (C := Tryd.checked) (os := os) (X := fun w _ => laidMetH Tryd.prog Rows.decTellsRow.laid w) false (laidWorld Tryd.prog os) #[.string ⟨#[]⟩, .slice none 0 0] 8 rfl (by kernel_rfl) (by kernel_rfl) (by kernel_rfl) (by kernel_rfl) (by kernel_rfl) (laid_met os _)) ?_
  intro W base args ds gs before hval0 hW _ _ hL _
  have hval : ∀ (j : Nat) t v, Tryd.f5.params[j]? = some t → args[j]? = some v → Value.okWide Tryd.prog W .any base t v := hval0
  have hW' := hW
  obtain ⟨p, q, hA0, hV, rfl, hfz, hnd⟩ := hW
  have hA : DataW.TrodAll enc Tryd.prog W 0 (fun _ => true) true Tryd.f5.params.toList args.toList ds p := hA0
  rw [Tryd.params5] at hA hval
  obtain ⟨v0, vs0, d0, ds0, p0, q0, hargs, rfl, rfl, h0, r0⟩ := trodAll_cons hA
  obtain ⟨v1, vs1, d1, ds1, p1, q1, rfl, rfl, rfl, h1, r1⟩ := trodAll_cons r0
  obtain ⟨rfl, rfl, rfl⟩ := trodAll_nil r1
  obtain rfl : args = #[v0, v1] := by cases args; simp_all
  obtain ⟨rfl, rfl⟩ := trodVars_none hV
  obtain ⟨a0, rfl, rfl, rfl, w0⟩ := open_string Tryd.underlying9 (hval 0 9 v0 rfl rfl) h0
  obtain ⟨a1, len1, cap1, rfl⟩ := okWide_slice Tryd.underlying33 (hval 1 33 v1 rfl rfl)
  have k1 := h1
  have lt1 : ∀ x ∈ p1, x.block < W.heap.size := by obtain ⟨m, hm⟩ := k1; exact DataW.trod_lt m _ _ _ hm
  obtain ⟨z1, w1⟩ : ∃ zs, IsRow .i64 W a1 len1 cap1 zs := by
    obtain ⟨fuel, hf⟩ := h1
    rcases open_ints Tryd.underlying33 Tryd.underlying2 (by kernel_rfl) hf with ⟨hcs, _⟩ | ⟨x, l, c, zs, hcs, _, hl, hm, hz, _, hcell, hwz⟩
    · simp [Value.cells] at hcs
      obtain ⟨rfl, rfl, rfl⟩ := hcs
      exact ⟨[], .inl ⟨rfl, rfl, rfl, rfl⟩⟩
    · simp [Value.cells] at hcs
      obtain ⟨rfl, rfl, rfl⟩ := hcs
      exact ⟨zs, .inr ⟨_, rfl, hl, hm, by simpa using hz, hcell, hwz⟩⟩
  clear hA0 hval0
  refine (walk W a0 w0 a1 len1 cap1 z1 w1 (ten_of_laid hL)).mono fun e W' ⟨he, bel⟩ => ?_
  subst he
  exact ⟨_, rfl, _, _, _, [], _, [], hW', trodAll_mk1 (shut_bool Tryd.underlying4 _), (trodAll_cons_mk (shut_string Tryd.underlying9 w0) (trodAll_cons_mk (Below.trod laidOut (by kernel_rfl) (of_decide_eq_true (by kernel_rfl)) k1 bel lt1) trodAll_mk0)), rfl, bel.frame _, fun h => by cases h⟩
theorem over : Rows.decBackRow.holds Tryd.pinned (OpenSpec.ofChange Rows.decBackSpec) :=
  OpenClaim.holds_of_wide 5 Tryd.f5 rfl rfl rfl rfl rfl rfl rfl ⟨rfl, rfl, rfl, rfl, rfl⟩ rfl rfl rfl rfl rfl (by kernel_rfl) Tryd.func5 (by kernel_rfl)
    (of_decide_eq_true (by kernel_rfl)) (by unfold Func.isWrapper; first | (rw [if_pos (by decide +kernel)]; kernel_rfl) | (rw [if_neg (by decide +kernel)]; exact ⟨rfl, rfl⟩))
    (fun os started H enc _ => lifted os started H enc)
/-- The statement: the tied card. -/
theorem proved : Rows.DecBackCardSaid :=
  Claim7.holds_tied_plain_at .later [] [.data, .data, .data] true Rows.decBackCard.stood.harness Rows.decBackCard.stood.looks
    over (fun _ h => by cases h) (by kernel_rfl) (fun _ h => by cases h) decBack_row_tie rfl ⟨rfl, rfl⟩ (by kernel_rfl) rfl
    (fun f fn hf hfn => by
      obtain rfl : f = 5 := Option.some.inj ((show Tryd.prog.funcNamed Rows.decBackRow.func = some 5 by kernel_rfl).symm.trans hf) |>.symm
      obtain rfl : fn = Tryd.f5 := (Option.some.inj (Tryd.func5.symm.trans hfn)).symm
      exact ⟨by kernel_rfl, fun j t ht => by
        rw [Tryd.params5] at ht
        have hall : ∀ t ∈ #[9, 33], Tryd.prog.wantsStandIn t = false := by decide +kernel
        exact hall t (Array.mem_of_getElem? ht)⟩)
    (by kernel_rfl)
#print axioms proved
end Go.Proofs.YtdianpdjcgcifaaDoor.decBack
