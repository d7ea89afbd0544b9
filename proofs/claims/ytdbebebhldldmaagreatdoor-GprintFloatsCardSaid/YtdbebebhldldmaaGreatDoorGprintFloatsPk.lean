/- Any edges with any floats as weights are, as a text, what the document says, or the program tells why and where they can't be. Conditions: none: every number of vertices, every slice of edges, every slice of floats' bits (of more than 100 the law asks only that the program prints graphs at all); the library's tables hold what the program's text lays there. -/
import Derived.Test.YtdbebebhldldmaaGreatDoorPk27
import Derived.Test.YtdbebebhldldmaaGreatDoorPk38
import Derived.Test.YtdbebebhldldmaaGreatDoorPk37
import Derived.Test.YtdbebebhldldmaaGreatDoorTie
import Derived.Test.YtdbebebhldldmaaGreatDoorCards
import Derived.ChangeSlices
import Derived.OpenShut
import Derived.ShutString
import Derived.SevenTiedAt
import Derived.ChangeOld
import Derived.Carry
namespace Go.Proofs.YtdbebebhldldmaaGreatDoor.gprintFloats
open Go.ChangeShapes Go.WideShapes Go.ChangeAt Go.RowKit EdPure NtPure GpPure Gp FbitPure FintPure
theorem both_of_laid {W : World} (h : laidMetH Tryz.prog Rows.gprintTellsRow.laid W) : Ten W ∧ Tab64 W := ⟨ten_of_laid h, tab64_of_laid h⟩
theorem info_float : (Tryz.prog.info? 38).map (fun i => (i.zero, i.size, i.bytes)) = some (some (.float .f64 0), 1, 8) := by kernel_rfl
/-- What stands from call to call. -/
def St (W w : World) : Prop := Below W.heap.size W w ∧ Ten w ∧ Tab64 w
theorem St.keep {W w w' : World} (h : St W w) (hb : Below w.heap.size w w') : St W w' := ⟨h.1.trans (hb.mono h.1.size), h.2.1.on hb, h.2.2.on hb⟩
set_option maxRecDepth 100000 in
set_option maxHeartbeats 1000000 in
theorem walk_list (n : Int) (hn0 : -9223372036854775808 ≤ n) (hn1 : n ≤ 9223372036854775807) (a : Option Addr) (cap : Nat) (l : List Ed) (hI : InL l) (b : Option Addr) (cb : Nat) (ws : List Nat) (hr : WideL ws) (W : World) (hl : ReadsE W.heap.size W a l) (hw : ReadsL encU W.heap.size W b ws) (hm1 : l.length ≤ maxLen) (hm2 : ws.length ≤ maxLen) (hT : Ten W ∧ Tab64 W) :
    Calls Tryz.prog 4 #[.int .i64 n, .slice a l.length cap, .slice b ws.length cb] W fun r w' => r = .returned (.bool true) ∧ Below W.heap.size W w' := by
  have HAW := Lib.hid (fun w hT hF => awake_any w hT hF)
  have HT : Hid (St W W) := Lib.hid ⟨Below.refl _ _, hT⟩
  have q1 : l.length ≤ 9223372036854775807 := by unfold maxLen at hm1; omega
  have q2 : ws.length ≤ 9223372036854775807 := by unfold maxLen at hm2; omega
  clear hT hm1 hm2
  by_cases h1 : 100 < l.length
  · go_enter Tryz.func4, Tryz.ntmps4
    go_wp2_with fail
    refine (HAW.out _ HT.out.2.1 HT.out.2.2).mono ?_
    rintro e w1 ⟨rfl, hb1⟩
    have HB := Lib.hid hb1
    clear hb1
    go_wp2
    go_ret
    exact ⟨rfl, HB.out⟩
  by_cases h2 : 100 < ws.length
  · go_enter Tryz.func4, Tryz.ntmps4
    go_wp2_with fail
    refine (HAW.out _ HT.out.2.1 HT.out.2.2).mono ?_
    rintro e w1 ⟨rfl, hb1⟩
    have HB := Lib.hid hb1
    clear hb1
    go_wp2
    go_ret
    exact ⟨rfl, HB.out⟩
  have HL := Lib.hid hl
  have HU := Lib.hid hw
  have HR := Lib.hid hr
  have HI := Lib.hid hI
  clear hl hw hr hI
  obtain ⟨i0, hi, hz0, hz1, hz2⟩ := info_parts info_float
  have HS : Hid (GrowRel encF 38 W (ws.take 0) (.slice none 0 0) W) := Lib.hid (GrowRel.start _ _ _)
  go_enter Tryz.func4, Tryz.ntmps4
  go_wp2
  go_loopw [7, 8] (fun v i wr => ∃ k : Nat, i = .int .i64 k ∧ k ≤ ws.length ∧ Hid (GrowRel encF 38 W (ws.take k) v wr)) (fun _ i _ => ws.length - (intOf i).toNat)
  case atStart => exact ⟨0, rfl, Nat.zero_le _, HS⟩
  case round =>
    clear HS
    obtain ⟨k, rfl, hk, HF⟩ := hrel
    by_cases hlt : k < ws.length
    · obtain ⟨b1, off, rfl, hbN, hck⟩ := (HU.out.on HF.out.1).at hlt
      have hsz := HF.out.1.size
      have hl' : (ws.take k).length = k := by simp; omega
      have HST : Hid (∀ v' w' o, w'.ownsRow W.heap.size 38 1 v' (k + 1) ((ws.take k).map encF ++ [.float .f64 ws[k]]) → (wr.alloc o).grownBy w' u7.ownBlock → GrowRel encF 38 W (ws.take (k + 1)) v' w') :=
        Lib.hid fun v' w' o h1 h2 => by rw [take_snoc ws k hlt]; exact HF.out.step (o := o) ws[k] (by rw [hl']; exact h1) h2
      unfold encU at hck
      generalize ws[k] = x at *
      go_wp2_with (first
        | (go_at_call 15; refine (of_any _ _).mono ?_; rintro e w' ⟨rfl, rfl⟩)
        | (at_builtin; refine wpList_append_own _ rfl _ _ 37 rfl W.heap.size 38 i0 (.float .f64 0) 1 8 Tryz.underlying37 hi hz0 hz1 hz2 rfl (by decide) u7 (ws.take k).length ((ws.take k).map encF) rfl (HF.out.2.alloc _) ⟨wr.heap.size, 0, none⟩ 1 1 [.float .f64 x] rfl rfl (one_newsAt rfl) (by intro u hu; simp at hu; subst hu; rfl) (by rw [hl']; unfold maxLen; omega) (by omega) (by simp; omega) ?_))
      intro v' w1 hown hgrow _
      rw [← List.map_take] at hown
      have HN := Lib.hid (HST.out v' w1 _ hown hgrow)
      clear hown hgrow
      go_wp2
      go_roundw
      case rel => exact ⟨k + 1, by go_num, hlt, HN⟩
      case measure => (simp [intOf] <;> omega)
    · have hke : k = ws.length := by omega
      have i3 : ¬ (k : Int) < (ws.length : Int) := by omega
      have HTK : Hid (ws.take k = ws) := Lib.hid (List.take_of_length_le (by omega))
      rw [HTK.out] at HF
      obtain ⟨p, cap', rfl, hrd, -⟩ := HF.out.reads
      have HS1 := Lib.hid (HT.out.keep HF.out.1)
      have HRD := Lib.hid hrd
      have HL1 := Lib.hid (HL.out.over HF.out.1 (Nat.le_refl _))
      have HU1 := Lib.hid (HU.out.over HF.out.1 (Nat.le_refl _))
      have HC := Lib.hid (progFloats_any n a cap l p cap' ws hn0 hn1 (by omega) (by omega) HI.out HR.out wr HL1.out HRD.out HS1.out.2.1 HS1.out.2.2)
      have HRF := Lib.hid (fun w hR hB => refFloats_any n a cap l b cb ws hn0 hn1 (by omega) (by omega) HI.out HR.out w hR hB)
      generalize (⟨(fltT n l ws).toArray⟩ : ByteArray) = S at *
      generalize fltE n l ws = fe at *
      generalize fltAt n l ws = fa at *
      clear hrd HF HTK HT HL HU hke HRD
      go_wp2_with fail
      refine HC.out.mono ?_
      rintro e w1 ⟨rfl, hb1⟩
      have HS2 := Lib.hid (HS1.out.keep hb1)
      have HL2 := Lib.hid (HL1.out.over hb1 (Nat.le_refl _))
      have HU2 := Lib.hid (HU1.out.over hb1 (Nat.le_refl _))
      clear hb1 HC HS1 HL1 HU1
      go_wp2_with fail
      refine (HRF.out _ HL2.out HU2.out).mono ?_
      rintro e w2 ⟨rfl, hb2⟩
      have HS3 := Lib.hid (HS2.out.keep hb2)
      clear hb2 HRF HS2 HL2 HU2
      go_wp2_with fail
      refine (HAW.out _ HS3.out.2.1 HS3.out.2.2).mono ?_
      rintro e w3 ⟨rfl, hb3⟩
      have HS4 := Lib.hid (HS3.out.keep hb3)
      clear hb3
      go_wp2
      go_ret
      exact ⟨rfl, HS4.out.1⟩
theorem walk (W : World) (n : Int) (hn : (Lit.int .i64 n).wf = true) (a : Option Addr) (cap : Nat) (l : List Ed) (h1 : EdIn W a l) (h2 : l.length ≤ maxLen) (b : Option Addr) (len cb : Nat) (zs : List Int) (hr : IsRow .u64 W b len cb zs) (hT : Ten W ∧ Tab64 W) :
    Calls Tryz.prog 4 #[.int .i64 n, .slice a l.length cap, .slice b len cb] W fun r w' => r = .returned (.bool true) ∧ Below W.heap.size W w' := by
  obtain ⟨ws, rfl, hw, hl, hm⟩ := row_readsU hr
  exact walk_list n (bounds_i64 hn).1 (bounds_i64 hn).2 a cap l h1.1 b cb ws hw W h1.2 hl h2 hm hT
theorem own : ownKnob Tryz.prog.godebug = none := by kernel_rfl
theorem laidOut : laidOutB Tryz.prog = true := by kernel_rfl
set_option maxRecDepth 100000 in
theorem lifted (os : Os) (started : os.Started) (H : Type) (enc : TypeId × Value → H) :
    ReturnsInHanded {} Tryz.checked os 4 .any (fun w args => (Rows.gprintFloatsSpec.pre enc Tryz.prog Tryz.f4 [] false w args ∧ laidMetH Tryz.prog Rows.gprintTellsRow.laid w) ∧ sizedMet enc Tryz.prog Tryz.f4 (OpenSpec.ofChange Rows.gprintFloatsSpec) false w args)
      (Rows.gprintFloatsSpec.post enc Tryz.prog Tryz.f4 false true false false) := by
  refine returnsInHanded_of_change_and (C := Tryz.checked) (X := fun w _ => laidMetH Tryz.prog Rows.gprintTellsRow.laid w) (fun _ _ _ hh h => h.of_heap hh) own started (by kernel_rfl) Tryz.func4
    (ChangeSpec.witness_at (enc := enc) (C := Tryz.checked) (os := os) (X := fun w _ => laidMetH Tryz.prog Rows.gprintTellsRow.laid w) false (laidWorld Tryz.prog os) #[.int .i64 0, .slice none 0 0, .slice none 0 0] 8 rfl (by kernel_rfl) (by kernel_rfl) (by kernel_rfl) (by kernel_rfl) (by kernel_rfl) (laid_met os _)) ?_
  intro W base args ds gs before hval0 hW _ _ hL _
  have hval : ∀ (j : Nat) t v, Tryz.f4.params[j]? = some t → args[j]? = some v → Value.okWide Tryz.prog W .any base t v := hval0
  have hW' := hW
  obtain ⟨p, q, hA0, hV, rfl, hfz, hnd⟩ := hW
  have hA : DataW.TrodAll enc Tryz.prog W 0 (fun _ => true) true Tryz.f4.params.toList args.toList ds p := hA0
  rw [Tryz.params4] at hA hval
  obtain ⟨v0, vs0, d0, ds0, p0, q0, hargs, rfl, rfl, h0, r0⟩ := trodAll_cons hA
  obtain ⟨v1, vs1, d1, ds1, p1, q1, rfl, rfl, rfl, h1, r1⟩ := trodAll_cons r0
  obtain ⟨v2, vs2, d2, ds2, p2, q2, rfl, rfl, rfl, h2, r2⟩ := trodAll_cons r1
  obtain ⟨rfl, rfl, rfl⟩ := trodAll_nil r2
  obtain rfl : args = #[v0, v1, v2] := by cases args; simp_all
  obtain ⟨rfl, rfl⟩ := trodVars_none hV
  obtain ⟨a0, rfl, rfl, rfl, w0⟩ := open_int Tryz.underlying3 (hval 0 3 v0 rfl rfl) h0
  obtain ⟨a1, len1, cap1, rfl⟩ := okWide_slice Tryz.underlying22 (hval 1 22 v1 rfl rfl)
  have k1 := h1
  have lt1 : ∀ x ∈ p1, x.block < W.heap.size := by obtain ⟨m, hm⟩ := k1; exact DataW.trod_lt m _ _ _ hm
  obtain ⟨l1, hlen1, w1⟩ : ∃ l : List Ed, l.length = len1 ∧ EdIn W a1 l ∧ l.length ≤ maxLen := by
    obtain ⟨fuel, hf⟩ := h1
    exact open_edges hf
  subst hlen1
  obtain ⟨a2, len2, cap2, rfl⟩ := okWide_slice Tryz.underlying36 (hval 2 36 v2 rfl rfl)
  have k2 := h2
  have lt2 : ∀ x ∈ p2, x.block < W.heap.size := by obtain ⟨m, hm⟩ := k2; exact DataW.trod_lt m _ _ _ hm
  obtain ⟨z2, w2⟩ : ∃ zs, IsRow .u64 W a2 len2 cap2 zs := by
    obtain ⟨fuel, hf⟩ := h2
    rcases open_ints Tryz.underlying36 Tryz.underlying40 (by kernel_rfl) hf with ⟨hcs, _⟩ | ⟨x, l, c, zs, hcs, _, hl, hm, hz, _, hcell, hwz⟩
    · simp [Value.cells] at hcs
      obtain ⟨rfl, rfl, rfl⟩ := hcs
      exact ⟨[], .inl ⟨rfl, rfl, rfl, rfl⟩⟩
    · simp [Value.cells] at hcs
      obtain ⟨rfl, rfl, rfl⟩ := hcs
      exact ⟨zs, .inr ⟨_, rfl, hl, hm, by simpa using hz, hcell, hwz⟩⟩
  clear hA0 hval0
  refine (walk W a0 w0 a1 cap1 l1 w1.1 w1.2 a2 len2 cap2 z2 w2 (both_of_laid hL)).mono fun e W' ⟨he, bel⟩ => ?_
  subst he
  exact ⟨_, rfl, _, _, _, [], _, [], hW', trodAll_mk1 (shut_bool Tryz.underlying4 _), (trodAll_cons_mk (shut_int Tryz.underlying3 w0) (trodAll_cons_mk (Below.trod laidOut (by kernel_rfl) (of_decide_eq_true (by kernel_rfl)) k1 bel lt1) (trodAll_cons_mk (Below.trod laidOut (by kernel_rfl) (of_decide_eq_true (by kernel_rfl)) k2 bel lt2) trodAll_mk0))), rfl, bel.frame _, fun h => by cases h⟩
theorem over : Rows.gprintFloatsRow.holds Tryz.pinned (OpenSpec.ofChange Rows.gprintFloatsSpec) :=
  OpenClaim.holds_of_wide 4 Tryz.f4 rfl rfl rfl rfl rfl rfl rfl ⟨rfl, rfl, rfl, rfl, rfl⟩ rfl rfl rfl rfl rfl (by kernel_rfl) Tryz.func4 (by kernel_rfl)
    (of_decide_eq_true (by kernel_rfl)) (by unfold Func.isWrapper; first | (rw [if_pos (by decide +kernel)]; kernel_rfl) | (rw [if_neg (by decide +kernel)]; exact ⟨rfl, rfl⟩))
    (fun os started H enc _ => lifted os started H enc)
/-- The statement: the tied card. -/
theorem proved : Rows.GprintFloatsCardSaid :=
  Claim7.holds_tied_plain_at .later [] [.data, .data, .data] true Rows.gprintFloatsCard.stood.harness Rows.gprintFloatsCard.stood.looks
    over (fun _ h => by cases h) (by kernel_rfl) (fun _ h => by cases h) gprintFloats_row_tie rfl ⟨rfl, rfl⟩ (by kernel_rfl) rfl
    (fun f fn hf hfn => by
      obtain rfl : f = 4 := Option.some.inj ((show Tryz.prog.funcNamed Rows.gprintFloatsRow.func = some 4 by kernel_rfl).symm.trans hf) |>.symm
      obtain rfl : fn = Tryz.f4 := (Option.some.inj (Tryz.func4.symm.trans hfn)).symm
      exact ⟨by kernel_rfl, fun j t ht => by
        rw [Tryz.params4] at ht
        have hall : ∀ t ∈ #[3, 22, 36], Tryz.prog.wantsStandIn t = false := by decide +kernel
        exact hall t (Array.mem_of_getElem? ht)⟩)
    (by kernel_rfl)
#print axioms proved
end Go.Proofs.YtdbebebhldldmaaGreatDoor.gprintFloats
