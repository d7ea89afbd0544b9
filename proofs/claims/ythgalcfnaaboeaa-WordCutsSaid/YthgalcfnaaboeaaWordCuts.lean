/- What the program cuts any text into is what the document says: its lines, its words, or that it has none; so is whether the text is plain, and the place of any key. Conditions: none: every text, every slice of keys (of a text of more than two thousand bytes, and of more than a hundred keys, the law asks only that the program cuts texts at all). -/
import Derived.Test.YthgalcfnaaboeaaWordRef3
import Derived.Test.YthgalcfnaaboeaaWordAwake
import Derived.Test.YthgalcfnaaboeaaRowS
import Derived.Test.YthgalcfnaaboeaaRows
import Derived.WalkKit
import Derived.ProofKit
import Derived.OpenShut
import Derived.ShutString
import Derived.ChangeOld
import Derived.Below
namespace Go.Proofs.Ythgalcfnaaboeaa.wordCuts
open Go.ChangeShapes Go.WideShapes Go.ChangeAt Go.RowKit WordPure Str Wd
open Go.ChangeMaps (open_string shut_string)
set_option maxRecDepth 100000 in
set_option maxHeartbeats 2000000 in
theorem walk_cuts (s : ByteArray) (hs : s.size ≤ maxLen) (a : Option Addr) (cap : Nat) (l : List (List UInt8)) (w : World) (hl : ReadsL encS w.heap.size w a l) (hm : l.length ≤ maxLen) :
    Calls Try.prog 3 #[.string s, .slice a l.length cap] w fun e w' => e = .returned (.bool true) ∧ Below w.heap.size w w' := by
  have HL := Lib.hid hl
  have hm1 : s.size ≤ 9223372036854775807 := by unfold maxLen at hs; omega
  have hm2 : l.length ≤ 9223372036854775807 := by unfold maxLen at hm; omega
  clear hl hs hm
  by_cases hbig : 2000 < s.size ∨ (¬ 2000 < s.size ∧ 100 < l.length)
  · have HC := Lib.hid (wordAwake_any w)
    rcases hbig with hbig | ⟨hbig, hbig2⟩
    all_goals
      go_enter Try.func3, Try.ntmps3
      go_wp2_with fail
      refine HC.out.mono ?_
      rintro e w1 ⟨rfl, hb1⟩
      have HB := Lib.hid hb1
      clear hb1
      go_wp2
      go_ret
      exact ⟨rfl, HB.out⟩
  have hs : s.size ≤ 2000 := by omega
  have hlen : l.length ≤ 100 := by omega
  clear hbig
  have HLL : Hid ((linesL s.data.toList).length ≤ 100000000) := Lib.hid (by have h1 := linesL_len s.data.toList; have h2 := Lib.size_eq s; omega)
  have HWL : Hid ((wordsL s.data.toList).length ≤ 100000000) := Lib.hid (by have h1 := wordsL_len s.data.toList; have h2 := Lib.size_eq s; omega)
  have H1 := Lib.hid (fun w => lines_any s (by omega) w)
  have H2 := Lib.hid (fun w => words_any s (by omega) w)
  have H3 := Lib.hid (fun w => refLines_any s (by omega) w)
  have H4 := Lib.hid (fun w => refWords_any s (by omega) w)
  have H5 := Lib.hid (fun w => plain_any s (by omega) w)
  have H6 := Lib.hid (fun w => refPlain_any s (by omega) w)
  have H7 := Lib.hid (fun w h => key_any s a cap l w h (by omega))
  have H8 := Lib.hid (fun w h => refKey_any s a cap l w h (by omega))
  unfold PairOut at H1 H2
  unfold AggOut at H3 H4
  generalize linesL s.data.toList = ll at *
  generalize linesB s.data.toList = lb at *
  generalize wordsL s.data.toList = wl at *
  generalize wordsB s.data.toList = wb at *
  generalize seenB s.data.toList = sb at *
  generalize keyI l s.data.toList = ki at *
  go_enter Try.func3, Try.ntmps3
  go_wp2_with fail
  refine (H1.out w).mono ?_
  rintro e w1 ⟨⟨p1, c1, rfl, hr1, -⟩, hb1⟩
  have HB1 := Lib.hid hb1
  have HR1 := Lib.hid hr1
  clear hb1 hr1
  go_wp2_with fail
  refine (H2.out w1).mono ?_
  rintro e w2 ⟨⟨p2, c2, rfl, hr2, -⟩, hb2⟩
  have HB2 := Lib.hid (HB1.out.trans (hb2.mono HB1.out.size))
  have HR12 := Lib.hid (HR1.out.over hb2 (Nat.le_refl _))
  have HR2 := Lib.hid hr2
  clear hb2 hr2
  go_wp2_with fail
  refine (H3.out w2).mono ?_
  rintro e w3 ⟨⟨p3, c3, rfl, hr3⟩, hb3⟩
  have HB3 := Lib.hid (HB2.out.trans (hb3.mono HB2.out.size))
  have HR13 := Lib.hid (HR12.out.over hb3 (Nat.le_refl _))
  have HR23 := Lib.hid (HR2.out.over hb3 (Nat.le_refl _))
  have HR3 := Lib.hid hr3
  clear hb3 hr3
  go_wp2_with fail
  refine (same_any p1 p3 c1 c3 ll lb w3 HR13.out HR3.out HLL.out).mono ?_
  rintro e w4 ⟨rfl, hb4⟩
  have HB4 := Lib.hid (HB3.out.trans (hb4.mono HB3.out.size))
  have HR24 := Lib.hid (HR23.out.over hb4 (Nat.le_refl _))
  clear hb4
  go_wp2_with fail
  refine (H4.out w4).mono ?_
  rintro e w5 ⟨⟨p5, c5, rfl, hr5⟩, hb5⟩
  have HB5 := Lib.hid (HB4.out.trans (hb5.mono HB4.out.size))
  have HR25 := Lib.hid (HR24.out.over hb5 (Nat.le_refl _))
  have HR5 := Lib.hid hr5
  clear hb5 hr5
  go_wp2_with fail
  refine (same_any p2 p5 c2 c5 wl wb w5 HR25.out HR5.out HWL.out).mono ?_
  rintro e w6 ⟨rfl, hb6⟩
  have HB6 := Lib.hid (HB5.out.trans (hb6.mono HB5.out.size))
  clear hb6
  go_wp2_with fail
  refine (H5.out w6).mono ?_
  rintro e w7 ⟨rfl, hb7⟩
  have HB7 := Lib.hid (HB6.out.trans (hb7.mono HB6.out.size))
  clear hb7
  go_wp2_with fail
  refine (H6.out w7).mono ?_
  rintro e w8 ⟨rfl, hb8⟩
  have HB8 := Lib.hid (HB7.out.trans (hb8.mono HB7.out.size))
  clear hb8
  go_wp2_with fail
  refine (H7.out w8 (HL.out.over HB8.out (Nat.le_refl _))).mono ?_
  rintro e w9 ⟨rfl, hb9⟩
  have HB9 := Lib.hid (HB8.out.trans (hb9.mono HB8.out.size))
  clear hb9
  go_wp2_with fail
  refine (H8.out w9 (HL.out.over HB9.out (Nat.le_refl _))).mono ?_
  rintro e w10 ⟨rfl, hb10⟩
  have HB10 := Lib.hid (HB9.out.trans (hb10.mono HB9.out.size))
  clear hb10
  go_wp2_with fail
  refine (wordAwake_any w10).mono ?_
  rintro e w11 ⟨rfl, hb11⟩
  have HB11 := Lib.hid (HB10.out.trans (hb11.mono HB10.out.size))
  clear hb11
  go_wp2
  go_ret
  exact ⟨rfl, HB11.out⟩
theorem own : ownKnob Try.prog.godebug = none := by kernel_rfl
theorem laidOut : laidOutB Try.prog = true := by kernel_rfl
theorem walk (W : World) (a0 : ByteArray) (w0 : a0.size ≤ maxLen) (a1 : Option Addr) (len1 cap1 : Nat) (z1 : List ByteArray) (w1 : IsRowS W a1 len1 cap1 z1) :
    Calls Try.prog 3 #[.string a0, .slice a1 len1 cap1] W fun e w' => e = .returned (.bool true) ∧ Below W.heap.size W w' := by
  obtain ⟨l, rfl, hl, hm, -, -, -⟩ := rowS_reads w1
  exact walk_cuts a0 w0 a1 cap1 l W hl hm
set_option maxRecDepth 100000 in
theorem lifted (os : Os) (started : os.Started) (H : Type) (enc : TypeId × Value → H) :
    ReturnsInHanded {} Try.checked os 3 .any (Rows.wordCutsSpec.pre6 enc Try.prog Try.f3 Rows.wordCutsRow.domain false) (Rows.wordCutsSpec.post enc Try.prog Try.f3 false true false false) := by
  refine returnsInHanded_of_change (C := Try.checked) own started (by kernel_rfl) Try.func3
    (ChangeSpec.witness6 (enc := enc) (C := Try.checked) false ⟨#[], #[.string ⟨#[]⟩, .slice none 0 0], []⟩ 8 (by kernel_rfl) (by kernel_rfl) (by kernel_rfl) (by kernel_rfl)) ?_
  intro W base args ds gs before hval0 hW hcnd _
  have hval : ∀ (j : Nat) t v, Try.f3.params[j]? = some t → args[j]? = some v → Value.okWide Try.prog W .any base t v := hval0
  have hW' := hW
  obtain ⟨p, q, hA0, hV, rfl, hfz, hnd⟩ := hW
  have hA : DataW.TrodAll enc Try.prog W 0 (fun _ => true) true Try.f3.params.toList args.toList ds p := hA0
  rw [Try.params3] at hA hval
  obtain ⟨v0, vs0, d0, ds0, p0, q0, hargs, rfl, rfl, h0, r0⟩ := trodAll_cons hA
  obtain ⟨v1, vs1, d1, ds1, p1, q1, rfl, rfl, rfl, h1, r1⟩ := trodAll_cons r0
  obtain ⟨rfl, rfl, rfl⟩ := trodAll_nil r1
  obtain rfl : args = #[v0, v1] := by cases args; simp_all
  obtain ⟨rfl, rfl⟩ := trodVars_none hV
  obtain ⟨a0, rfl, rfl, rfl, w0⟩ := open_string Try.underlying9 (hval 0 9 v0 rfl rfl) h0
  obtain ⟨a1, len1, cap1, rfl⟩ := okWide_slice Try.underlying22 (hval 1 22 v1 rfl rfl)
  have k1 := h1
  have lt1 : ∀ x ∈ p1, x.block < W.heap.size := by obtain ⟨m, hm⟩ := k1; exact DataW.trod_lt m _ _ _ hm
  obtain ⟨z1, w1⟩ : ∃ zs, IsRowS W a1 len1 cap1 zs := by
    obtain ⟨fuel, hf⟩ := h1
    rcases open_strings Try.underlying22 Try.underlying9 (by kernel_rfl) hf with ⟨hcs, _⟩ | ⟨x, l, c, zs, hcs, _, hl, hm, hz, _, hcell, hsz⟩
    · simp [Value.cells] at hcs
      obtain ⟨rfl, rfl, rfl⟩ := hcs
      exact ⟨[], .inl ⟨rfl, rfl, rfl, rfl⟩⟩
    · simp [Value.cells] at hcs
      obtain ⟨rfl, rfl, rfl⟩ := hcs
      exact ⟨zs, .inr ⟨_, rfl, hl, hm, by simpa using hz, hcell, hsz⟩⟩
  clear hA0 hval0
  refine (walk W a0 w0 a1 len1 cap1 z1 w1).mono fun e W' ⟨he, bel⟩ => ?_
  subst he
  exact ⟨_, rfl, _, _, _, [], _, [], hW', trodAll_mk1 (shut_bool Try.underlying4 _), (trodAll_cons_mk (shut_string Try.underlying9 w0) (trodAll_cons_mk (Below.trod laidOut (by kernel_rfl) (of_decide_eq_true (by kernel_rfl)) k1 bel lt1) trodAll_mk0)), rfl, bel.frame _, fun h => by cases h⟩
theorem over : Rows.wordCutsRow.holds Try.pinned (OpenSpec.ofChange Rows.wordCutsSpec) :=
  OpenClaim.holds_of_wide 3 Try.f3 rfl rfl rfl rfl rfl rfl rfl ⟨rfl, rfl, rfl, rfl, rfl⟩ rfl rfl rfl rfl rfl (by kernel_rfl) Try.func3 (by kernel_rfl)
    (of_decide_eq_true (by kernel_rfl)) (by unfold Func.isWrapper; first | (rw [if_pos (by decide +kernel)]; kernel_rfl) | (rw [if_neg (by decide +kernel)]; exact ⟨rfl, rfl⟩))
    (fun os started H enc _ => lifted os started H enc)
/-- The statement. -/
theorem proved : Rows.WordCutsSaid := over
#print axioms proved
end Go.Proofs.Ythgalcfnaaboeaa.wordCuts
