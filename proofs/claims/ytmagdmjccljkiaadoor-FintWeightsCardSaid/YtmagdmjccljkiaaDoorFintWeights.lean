/- Weights of fint answers of any floats what the document says: their weights, or why and where the first one is none. Conditions: none: every slice of words (of more than a hundred the law asks only that the program takes whole floats at all); the library's table of de Bruijn holds what the program's text lays into it, and the card ties that to the text. -/
import Derived.Test.YtmagdmjccljkiaaDoorFbitLaid
import Derived.Test.YtmagdmjccljkiaaDoorFintList
import Derived.Test.YtmagdmjccljkiaaDoorTie
import Derived.Test.YtmagdmjccljkiaaDoorCards
import Derived.SevenTiedAt
import Derived.Carry
namespace Go.Proofs.YtmagdmjccljkiaaDoor.fintWeights
open Go.ChangeShapes Go.WideShapes Go.ChangeAt Go.RowKit FbitPure FintPure
theorem laidOut : laidOutB Tryd.prog = true := by kernel_rfl
theorem info_float : (Tryd.prog.info? 23).map (fun i => (i.zero, i.size, i.bytes)) = some (some (.float .f64 0), 1, 8) := by kernel_rfl
set_option maxHeartbeats 1000000 in
theorem walk_list (a : Option Addr) (cap : Nat) (l : List Nat) (w : World) (hr : WideL l) (hl : ReadsL encU w.heap.size w a l) (hm : l.length ≤ maxLen) (hT : TabAt 1 Lib.deBruijn64tab w) :
    Calls Tryd.prog 4 #[.slice a l.length cap] w fun e w' => e = .returned (.bool true) ∧ Below w.heap.size w w' := by
  have HT := Lib.hid hT
  have HL := Lib.hid hl
  have HR := Lib.hid hr
  have HM := Lib.hid hm
  clear hT hl hr hm
  by_cases h100 : 100 < l.length
  · have hm : l.length ≤ 9223372036854775807 := by have := HM.out; unfold maxLen at this; omega
    go_enter Tryd.func4, Tryd.ntmps4
    go_wp2_with (first | (go_at_call 15; refine (fintAwake_any _ HT.out).mono ?_; rintro e w' ⟨rfl, rfl⟩))
    go_ret
    exact ⟨rfl, Below.refl _ _⟩
  have hlen : l.length ≤ 100 := by omega
  obtain ⟨K, hK⟩ := first_bad l
  have HK := Lib.hid hK
  clear hK
  obtain ⟨i0, hi, hz0, hz1, hz2⟩ := info_parts info_float
  have HS : Hid (GrowRel encF 23 w (l.take 0) (.slice none 0 0) w) := Lib.hid (GrowRel.start _ _ _)
  go_enter Tryd.func4, Tryd.ntmps4
  go_wp2
  go_loopw [3, 4] (fun v i wr => ∃ k : Nat, i = .int .i64 k ∧ k ≤ l.length ∧ Hid (GrowRel encF 23 w (l.take k) v wr)) (fun _ i _ => l.length - (intOf i).toNat)
  case atStart => exact ⟨0, rfl, Nat.zero_le _, HS⟩
  case round =>
    obtain ⟨k, rfl, hk, HF⟩ := hrel
    by_cases hlt : k < l.length
    · obtain ⟨b, off, rfl, hbN, hck⟩ := (HL.out.on HF.out.1).at hlt
      have hsz := HF.out.1.size
      have hl' : (l.take k).length = k := by simp; omega
      have HST : Hid (∀ v' w' o, w'.ownsRow w.heap.size 23 1 v' (k + 1) ((l.take k).map encF ++ [.float .f64 l[k]]) → (wr.alloc o).grownBy w' u3.ownBlock → GrowRel encF 23 w (l.take (k + 1)) v' w') :=
        Lib.hid fun v' w' o h1 h2 => by rw [take_snoc l k hlt]; exact HF.out.step (o := o) l[k] (by rw [hl']; exact h1) h2
      unfold encU at hck
      generalize l[k] = x at *
      go_wp2_with (first
        | (go_at_call 6; refine (of_any _ _).mono ?_; rintro e w' ⟨rfl, rfl⟩)
        | (at_builtin; refine wpList_append_own _ rfl _ _ 41 rfl w.heap.size 23 i0 (.float .f64 0) 1 8 Tryd.underlying41 hi hz0 hz1 hz2 rfl (by decide) u3 (l.take k).length ((l.take k).map encF) rfl (HF.out.2.alloc _) ⟨wr.heap.size, 0, none⟩ 1 1 [.float .f64 x] rfl rfl (one_newsAt rfl) (by intro u hu; simp at hu; subst hu; rfl) (by unfold maxLen; omega) (by omega) (by simp; omega) ?_))
      intro v' w1 hown hgrow _
      rw [← List.map_take] at hown
      have HN := Lib.hid (HST.out v' w1 _ hown hgrow)
      clear hown hgrow
      go_wp2
      go_roundw
      case rel => exact ⟨k + 1, by go_num, hlt, HN⟩
      case measure => (simp [intOf] <;> omega)
    · have hke : k = l.length := by omega
      subst hke
      obtain ⟨p, cap', rfl, hrd, -⟩ := HF.out.reads
      have HB := Lib.hid HF.out.1
      rw [List.take_length] at hrd ⊢
      have HRD := Lib.hid hrd
      have HT1 := Lib.hid (tab_on HT.out (by decide) HB.out)
      clear hrd
      go_wp2_with fail
      refine (weights_any p cap' l K wr HR.out HRD.out (by omega) HK.out HT1.out).mono ?_
      rintro e w1 ⟨ho1, hb1⟩
      have HO1 := Lib.hid ho1
      have HB1 := Lib.hid (HB.out.trans (hb1.mono HB.out.size))
      clear ho1 hb1
      have hd : (∃ p1 c1, e = .returned (.tuple #[.slice p1 l.length c1, .int .i64 0, .int .i64 0]) ∧ Hid (K = l.length ∧ ReadsL encW w1.heap.size w1 p1 l)) ∨ (∃ E : Int, e = .returned (.tuple #[.slice none 0 0, .int .i64 E, .int .i64 (K : Int)]) ∧ Hid (∃ h : K < l.length, E = weightE l[K])) := by
        rcases HO1.out with ⟨g1, p1, c1, g2, g3⟩ | ⟨g1, g2⟩
        · exact Or.inl ⟨p1, c1, g2, Lib.hid ⟨g1, g3⟩⟩
        · exact Or.inr ⟨_, g2, Lib.hid ⟨g1, rfl⟩⟩
      clear HO1
      rcases hd with ⟨p1, c1, rfl, HG⟩ | ⟨E, rfl, HG⟩
      · go_wp2_with fail
        refine (refWeights_any a cap l K w1 HR.out ((HL.out.on HB1.out).mono HB1.out.size) (by omega) HK.out).mono ?_
        rintro e w2 ⟨ho2, hb2⟩
        have hd : ∃ q d, e = .returned (.agg #[.slice q l.length d, .int .i64 0, .int .i64 0]) ∧ ReadsL encW w2.heap.size w2 q l := by
          rcases ho2 with ⟨g1, q, d, g2, g3⟩ | ⟨g1, g2⟩
          · exact ⟨q, d, g2, g3⟩
          · exact absurd HG.out.1 (by omega)
        clear ho2
        obtain ⟨q, d, rfl, hq⟩ := hd
        have hp := HG.out.2.over hb2 (Nat.le_refl _)
        have hb3 := (Below.refl w2.heap.size w2).alloc (Nat.le_refl _) (.cells #[.slice q l.length d, .int .i64 0, .int .i64 0] 46)
        have HQ := Lib.hid (hq.over hb3 (Nat.le_refl _))
        have HP := Lib.hid (hp.over hb3 (Nat.le_refl _))
        have h3 := Lib.hid (ThreeAt.new w2 (.slice q l.length d) (.int .i64 0) (.int .i64 0) 46)
        have HB2 := Lib.hid (HB1.out.trans (hb2.mono HB1.out.size))
        have HB3 := Lib.hid (HB2.out.trans (hb3.mono HB2.out.size))
        clear hb2 hb3 hq hp
        go_wp2_with fail
        refine (same_any p1 q c1 d l _ HP.out HQ.out (by omega)).mono ?_
        rintro e w4 ⟨rfl, hb4⟩
        have HT4 := Lib.hid (tab_on HT.out (by decide) (HB3.out.trans (hb4.mono HB3.out.size)))
        have HB4 := Lib.hid (HB3.out.trans (hb4.mono HB3.out.size))
        obtain ⟨c0, c1, c2, -, -, -⟩ := h3.out.on hb4 h3.out.lt
        clear hb4
        go_wp2_with (first | (go_at_call 15; refine (fintAwake_any _ HT4.out).mono ?_; rintro e w' ⟨rfl, rfl⟩))
        go_ret
        exact ⟨rfl, HB4.out⟩
      · go_wp2_with fail
        refine (refWeights_any a cap l K w1 HR.out ((HL.out.on HB1.out).mono HB1.out.size) (by omega) HK.out).mono ?_
        rintro e w2 ⟨ho2, hb2⟩
        have hd : e = .returned (.agg #[.slice none 0 0, .int .i64 E, .int .i64 (K : Int)]) := by
          obtain ⟨g, rfl⟩ := HG.out
          rcases ho2 with ⟨g1, q, d, g2, g3⟩ | ⟨g1, g2⟩
          · omega
          · exact g2
        clear ho2
        subst hd
        have hb3 := (Below.refl w2.heap.size w2).alloc (Nat.le_refl _) (.cells #[.slice none 0 0, .int .i64 E, .int .i64 (K : Int)] 46)
        have h3 := Lib.hid (ThreeAt.new w2 (.slice none 0 0) (.int .i64 E) (.int .i64 (K : Int)) 46)
        have HB2 := Lib.hid (HB1.out.trans (hb2.mono HB1.out.size))
        have HB3 := Lib.hid (HB2.out.trans (hb3.mono HB2.out.size))
        clear hb2 hb3
        go_wp2_with fail
        refine (same_any none none 0 0 [] _ (ReadsL.nil _ _ _ _) (ReadsL.nil _ _ _ _) (by simp)).mono ?_
        rintro e w4 ⟨rfl, hb4⟩
        have HT4 := Lib.hid (tab_on HT.out (by decide) (HB3.out.trans (hb4.mono HB3.out.size)))
        have HB4 := Lib.hid (HB3.out.trans (hb4.mono HB3.out.size))
        obtain ⟨c0, c1, c2, -, -, -⟩ := h3.out.on hb4 h3.out.lt
        clear hb4
        go_wp2_with (first | (go_at_call 15; refine (fintAwake_any _ HT4.out).mono ?_; rintro e w' ⟨rfl, rfl⟩))
        go_ret
        exact ⟨rfl, HB4.out⟩
theorem walk (w : World) (a0 : Option Addr) (len0 cap0 : Nat) (z0 : List Int) (w0 : IsRow .u64 w a0 len0 cap0 z0) (hT : TabAt 1 Lib.deBruijn64tab w) :
    Calls Tryd.prog 4 #[.slice a0 len0 cap0] w fun e w' => e = .returned (.bool true) ∧ Below w.heap.size w w' := by
  obtain ⟨l, rfl, h1, h2, h3⟩ := row_readsU w0
  exact walk_list a0 cap0 l w h1 h2 h3 hT
set_option maxRecDepth 100000 in
theorem lifted (os : Os) (started : os.Started) (H : Type) (enc : TypeId × Value → H) :
    ReturnsInHanded {} Tryd.checked os 4 .any (fun w args => (Rows.fintWeightsSpec.pre enc Tryd.prog Tryd.f4 [] false w args ∧ laidMetH Tryd.prog Rows.fintTellsRow.laid w) ∧ sizedMet enc Tryd.prog Tryd.f4 (OpenSpec.ofChange Rows.fintWeightsSpec) false w args)
      (Rows.fintWeightsSpec.post enc Tryd.prog Tryd.f4 false true false false) := by
  refine returnsInHanded_of_change_and (C := Tryd.checked) (X := fun w _ => laidMetH Tryd.prog Rows.fintTellsRow.laid w) (fun _ _ _ hh h => h.of_heap hh) own started (by kernel_rfl) Tryd.func4
    (ChangeSpec.witness_at (enc := enc) (C := Tryd.checked) (os := os) (X := fun w _ => laidMetH Tryd.prog Rows.fintTellsRow.laid w) false (laidWorld Tryd.prog os) #[.slice none 0 0] 8 rfl (by kernel_rfl) (by kernel_rfl) (by kernel_rfl) (by kernel_rfl) (by kernel_rfl) (laid_met os _)) ?_
  intro W base args ds gs before hval0 hW _ _ hL _
  have hval : ∀ (j : Nat) t v, Tryd.f4.params[j]? = some t → args[j]? = some v → Value.okWide Tryd.prog W .any base t v := hval0
  have hW' := hW
  obtain ⟨p, q, hA0, hV, rfl, hfz, hnd⟩ := hW
  have hA : DataW.TrodAll enc Tryd.prog W 0 (fun _ => true) true Tryd.f4.params.toList args.toList ds p := hA0
  rw [Tryd.params4] at hA hval
  obtain ⟨v0, vs0, d0, ds0, p0, q0, hargs, rfl, rfl, h0, r0⟩ := trodAll_cons hA
  obtain ⟨rfl, rfl, rfl⟩ := trodAll_nil r0
  obtain rfl : args = #[v0] := by cases args; simp_all
  obtain ⟨rfl, rfl⟩ := trodVars_none hV
  obtain ⟨a0, len0, cap0, rfl⟩ := okWide_slice Tryd.underlying40 (hval 0 40 v0 rfl rfl)
  have k0 := h0
  have lt0 : ∀ x ∈ p0, x.block < W.heap.size := by obtain ⟨m, hm⟩ := k0; exact DataW.trod_lt m _ _ _ hm
  obtain ⟨z0, w0⟩ : ∃ zs, IsRow .u64 W a0 len0 cap0 zs := by
    obtain ⟨fuel, hf⟩ := h0
    rcases open_ints Tryd.underlying40 Tryd.underlying22 (by kernel_rfl) hf with ⟨hcs, _⟩ | ⟨x, l, c, zs, hcs, _, hl, hm, hz, _, hcell, hwz⟩
    · simp [Value.cells] at hcs
      obtain ⟨rfl, rfl, rfl⟩ := hcs
      exact ⟨[], .inl ⟨rfl, rfl, rfl, rfl⟩⟩
    · simp [Value.cells] at hcs
      obtain ⟨rfl, rfl, rfl⟩ := hcs
      exact ⟨zs, .inr ⟨_, rfl, hl, hm, by simpa using hz, hcell, hwz⟩⟩
  clear hA0 hval0
  refine (walk W a0 len0 cap0 z0 w0 (tab_of_laid hL)).mono fun e W' ⟨he, bel⟩ => ?_
  subst he
  exact ⟨_, rfl, _, _, _, [], _, [], hW', trodAll_mk1 (shut_bool Tryd.underlying4 _), (trodAll_cons_mk (Below.trod laidOut (by kernel_rfl) (of_decide_eq_true (by kernel_rfl)) k0 bel lt0) trodAll_mk0), rfl, bel.frame _, fun h => by cases h⟩
theorem over : Rows.fintWeightsRow.holds Tryd.pinned (OpenSpec.ofChange Rows.fintWeightsSpec) :=
  OpenClaim.holds_of_wide 4 Tryd.f4 rfl rfl rfl rfl rfl rfl rfl ⟨rfl, rfl, rfl, rfl, rfl⟩ rfl rfl rfl rfl rfl (by kernel_rfl) Tryd.func4 (by kernel_rfl)
    (of_decide_eq_true (by kernel_rfl)) (by unfold Func.isWrapper; first | (rw [if_pos (by decide +kernel)]; kernel_rfl) | (rw [if_neg (by decide +kernel)]; exact ⟨rfl, rfl⟩))
    (fun os started H enc _ => lifted os started H enc)
/-- The statement: the tied card. -/
theorem proved : Rows.FintWeightsCardSaid :=
  Claim7.holds_tied_plain_at .later [] [.data] true Rows.fintWeightsCard.stood.harness false
    over (fun _ h => by cases h) (by kernel_rfl) (fun _ h => by cases h) fintWeights_row_tie rfl ⟨rfl, rfl⟩ (by kernel_rfl) rfl
    (fun f fn hf hfn => by
      obtain rfl : f = 4 := Option.some.inj ((show Tryd.prog.funcNamed Rows.fintWeightsRow.func = some 4 by kernel_rfl).symm.trans hf) |>.symm
      obtain rfl : fn = Tryd.f4 := (Option.some.inj (Tryd.func4.symm.trans hfn)).symm
      exact ⟨by kernel_rfl, fun j t ht => by
        rw [Tryd.params4] at ht
        have hall : ∀ t ∈ #[40], Tryd.prog.wantsStandIn t = false := by decide +kernel
        exact hall t (Array.mem_of_getElem? ht)⟩)
    (by kernel_rfl)
#print axioms proved
end Go.Proofs.YtmagdmjccljkiaaDoor.fintWeights
