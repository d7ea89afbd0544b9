/- num adds any numbers at once and one by one, and from the first sum on that does not fit there is none; a nil Acc tells nothing. Conditions: none: every list of numbers of 64 bits. -/
import Derived.Test.YtkncgpklnfljfaaRows
import Derived.WalkKit
import Derived.ProofKit
import Derived.OpenShut
import Derived.ShutString
import Derived.ChangeOld
import Derived.Below
import Derived.Test.YtkncgpklnfljfaaNumRef
namespace Go.Proofs.Ytkncgpklnfljfaa.numSums
open Go.ChangeShapes Go.WideShapes Go.ChangeAt Go.RowKit NumPure
open Go.ChangeMaps (open_string shut_string)
set_option linter.unusedVariables false

theorem own : ownKnob Try.prog.godebug = none := by kernel_rfl
theorem laidOut : laidOutB Try.prog = true := by kernel_rfl

/-- WHAT THE WALK IS TOLD OF A SLICE OF INTEGERS THAT CAME IN: it is nil; or it leads to a row of 'cap' cells, the numbers 'zs' (the first 'len' are its elements, the rest its spare room), each fitting its kind. -/
def IsRow (k : IntKind) (w : World) (a : Option Addr) (len cap : Nat) (zs : List Int) : Prop :=
  (a = none ∧ len = 0 ∧ cap = 0 ∧ zs = []) ∨
  ∃ x, a = some x ∧ len ≤ cap ∧ cap ≤ maxLen ∧ zs.length = cap ∧ (∀ i, i < zs.length → w.cell? (x.add i) = some (.int k (zs.getD i 0))) ∧ ∀ n ∈ zs, (Lit.int k n).wf = true

set_option maxHeartbeats 400000 in
theorem sums_walk (a0 : Option Addr) (cap0 : Nat) (l : List Int) (w : World) (hr : Rng l) (hl : Reads w.heap.size w a0 l) (hcap : l.length ≤ cap0) (hmax : cap0 ≤ 9223372036854775807) :
    Calls Try.prog 4 #[.slice a0 l.length cap0] w fun e w' => e = .returned (.bool true) ∧ Below w.heap.size w w' := by
  by_cases hbig : 200 < l.length
  · clear hr hl
    have hb0 : decide (200 < (l.length : Int)) = true := by simp; omega
    go_enter Try.func4, Try.ntmps4
    go_wp2_with (go_at_call 13; refine (awake_any _).mono ?_; rintro e w' ⟨rfl, hb⟩; have HB := Lib.hid hb; clear hb)
    go_ret
    exact ⟨rfl, HB.out⟩
  have hA := accAt_new w 33
  have hB := (Below.refl w.heap.size w).alloc (Nat.le_refl _) (.cells #[.int .i64 0, .bool false] 33)
  have HA := Lib.hid hA
  have HL := Lib.hid (hl.on hB)
  have HB := Lib.hid hB
  have HR := Lib.hid hr
  clear hA hB hr hl
  have hb0 : decide (200 < (l.length : Int)) = false := by simp; omega
  go_enter Try.func4, Try.ntmps4
  go_wp2
  generalize hN : w.heap.size = N at *
  have HN := Lib.hid hN
  clear hN
  generalize (w.alloc (.cells #[.int .i64 0, .bool false] 33)) = W0 at *
  go_loopw [6] (fun i wr => ∃ k : Nat, i = .int .i64 k ∧ Hid (SumRel N W0 l k wr)) (fun i _ => l.length - (intOf i).toNat)
  case atStart => exact ⟨0, rfl, ⟨Nat.zero_le _, Below.refl _ _, HA.out⟩⟩
  case round =>
    obtain ⟨k, rfl, HP⟩ := hrel
    have hk1 := HP.out.1
    have hNlt := HP.out.2.2.lt
    have HLr := Lib.hid (HL.out.on HP.out.2.1)
    by_cases hlt : k < l.length
    · obtain ⟨b, off, ha, hbN, hck⟩ := HLr.out.at hlt
      subst ha
      have hrk := HR.out k hlt
      have hsr := sumS_rng (l.take k)
      have hsz := sumS_zero (l.take k)
      have hqq := sumS_take l k hlt
      have hBr := HP.out.2.1
      have hAr := HP.out.2.2
      have hend : ∀ wx, Below N W0 wx → AccAt N wx (sumS (l.take (k + 1))) → SumRel N W0 l (k + 1) wx := fun wx h1 h2 => ⟨hlt, h1, h2⟩
      have hR1 := refSum_len (some ⟨b, off, none⟩) cap0 (k + 1) (l.take (k + 1)) (by rw [List.length_take]; omega) wr (HR.out.take _) ((HLr.out.mono (by omega)).take _) (by omega)
      generalize sumS (l.take k) = p at *
      generalize sumS (l.take (k + 1)) = q at *
      generalize l.getD k 0 = n at *
      have R1 := Lib.hid hR1
      have Hend := Lib.hid hend
      have Hqq := Lib.hid hqq
      have Hsz := Lib.hid hsz
      have HBr := Lib.hid hBr
      have HAr := Lib.hid hAr
      clear hR1 hend hqq hsz hBr hAr HP
      go_wp2_with fail
      refine R1.out.mono ?_
      rintro e w1 ⟨rfl, hb⟩
      have hb1 := hb.mono (show N + 1 ≤ wr.heap.size from hNlt)
      have hw1 := Nat.lt_of_lt_of_le hNlt hb.size
      have HB1 := Lib.hid (HBr.out.trans (hb1.mono (Nat.le_succ N)))
      have HA1 := Lib.hid (AccAt.on HAr.out hb1)
      have hck1 := (hb1.cell (p := ⟨b, off + k, none⟩) (by simp; omega)).trans hck
      have hbw : b < w1.heap.size := by omega
      clear hb hb1 hck
      have hal := ((Below.refl (N + 1) w1).alloc (by omega) (.cells #[.int .i64 q.1, .bool q.2] 26))
      have HA2 := Lib.hid (AccAt.on HA1.out hal)
      have HB2 := Lib.hid (HB1.out.alloc (by omega) (.cells #[.int .i64 q.1, .bool q.2] 26))
      have P2 := Lib.hid (put_gen N p n _ hsr hrk Hsz.out HA2.out)
      have hck2 := (hal.cell (p := ⟨b, off + k, none⟩) (by simp; omega)).trans hck1
      have hx0 : (w1.alloc (.cells #[.int .i64 q.1, .bool q.2] 26)).cell? ⟨w1.heap.size, 0, none⟩ = some (.int .i64 q.1) := by simp
      have hx1 : (w1.alloc (.cells #[.int .i64 q.1, .bool q.2] 26)).cell? ⟨w1.heap.size, 1, none⟩ = some (.bool q.2) := by simp
      have HX0 := Lib.hid hx0
      have HX1 := Lib.hid hx1
      clear hal hx0 hx1
      go_wp2_with fail
      refine P2.out.mono ?_
      rintro e w2 ⟨rfl, hb, hacc, hon, -, hos⟩
      rw [← Hqq.out] at hacc
      rw [← Hqq.out]
      have HB3 := Lib.hid (HB2.out.trans hb)
      have HA3 := Lib.hid hacc
      have hck3 := (hon b (off + k) (by omega)).trans hck2
      have hx0 := (hon w1.heap.size 0 (by omega)).trans HX0.out
      have hx1 := (hon w1.heap.size 1 (by omega)).trans HX1.out
      have hqz : q.2 = false → q.1 = 0 := by
        rw [Hqq.out]
        intro h
        cases hp : p.2
        · rw [step_bad p n hp]
        · rw [step_ok p n hp] at h ⊢
          exact cut_out ((fits_not _).1 h)
      have V3 := Lib.hid (value_gen N q w2 hqz hacc)
      have hw2 : w1.heap.size < w2.heap.size := by have := hos; simp at this; omega
      clear hb hacc hon hos hck1 hck2 hqz
      go_wp2_with fail
      refine V3.out.mono ?_
      rintro e w3 ⟨rfl, rfl⟩
      go_wp2_with fail
      refine (same_yes _ _ _).mono ?_
      rintro e w3 ⟨rfl, hb⟩
      have hck4 := (hb.cell (p := ⟨b, off + k, none⟩) (by simp; omega)).trans hck3
      have HB4 := Lib.hid (HB3.out.trans (hb.mono (by omega)))
      have HA4 := Lib.hid (AccAt.on HA3.out (hb.mono (by omega)))
      clear hb hck3 hx0 hx1
      go_wp2_with fail
      refine (put_nil _ _).mono ?_
      rintro e w4 ⟨rfl, rfl⟩
      go_wp2
      go_roundw
      case rel => exact ⟨k + 1, by go_num, Hend.out _ HB4.out HA4.out⟩
      case measure => simp [intOf]; omega
    · have hke : k = l.length := by omega
      subst hke
      have hR := HR.out
      have hBr := HP.out.2.1
      have S1 := Lib.hid (sum_len a0 cap0 l.length l rfl wr hR (HLr.out.mono (by omega)) (by omega))
      have HB1 := Lib.hid (HB.out.trans (hBr.mono (by omega)))
      have HLW := HL
      have HBr := Lib.hid hBr
      clear hR hBr
      go_wp2_with fail
      refine S1.out.mono ?_
      rintro e w1 ⟨rfl, hb⟩
      have HBr1 := Lib.hid (HBr.out.trans (hb.mono (by omega)))
      have HB2 := Lib.hid (HB1.out.trans (hb.mono (by omega)))
      have hsz := hb.size
      have R1 := Lib.hid (refSum_len a0 cap0 l.length l rfl w1 HR.out ((HLW.out.on HBr1.out).mono (by omega)) (by omega))
      clear hb
      go_wp2_with fail
      refine (value_nil _).mono ?_
      rintro e w2 ⟨rfl, rfl⟩
      go_wp2_with fail
      refine R1.out.mono ?_
      rintro e w2 ⟨rfl, hb⟩
      have HB3 := Lib.hid (HB2.out.trans (hb.mono (by omega)))
      have hsz2 := hb.size
      clear hb
      go_wp2_with fail
      refine (same_yes _ _ _).mono ?_
      rintro e w3 ⟨rfl, hb⟩
      have HB4 := Lib.hid (HB3.out.trans (hb.mono (by omega)))
      have hsz3 := hb.size
      clear hb
      go_wp2_with fail
      refine (awake_any _).mono ?_
      rintro e w4 ⟨rfl, hb⟩
      have HB5 := Lib.hid (HB4.out.trans (hb.mono (by omega)))
      clear hb
      go_wp2
      go_ret
      rw [HN.out]
      exact ⟨rfl, HB5.out⟩
theorem walk (a0 : Option Addr) (len0 cap0 : Nat) (z0 : List Int) (w : World) (w0 : IsRow .i64 w a0 len0 cap0 z0) :
    Calls Try.prog 4 #[.slice a0 len0 cap0] w fun e w' => e = .returned (.bool true) ∧ Below w.heap.size w w' := by
  rcases w0 with ⟨rfl, rfl, rfl, rfl⟩ | ⟨x, rfl, hl, hm, hz, hcell, hwz⟩
  · exact sums_walk none 0 [] w (by intro i hi; simp at hi) (Or.inl rfl) (by simp) (by omega)
  · obtain ⟨hlen, hr, hR⟩ := rows_reads hl hz hcell hwz
    have := sums_walk (some x) cap0 (z0.take len0) w hr hR (by omega) (by unfold maxLen at hm; omega)
    rw [hlen] at this
    exact this

/-! ### THE ROW's STEP: WRITTEN OUT: LEAVE IT -/
set_option maxRecDepth 100000 in
theorem lifted (os : Os) (started : os.Started) (H : Type) (enc : TypeId × Value → H) :
    ReturnsInHanded {} Try.checked os 4 .any (Rows.numSumsSpec.pre6 enc Try.prog Try.f4 Rows.numSumsRow.domain false) (Rows.numSumsSpec.post enc Try.prog Try.f4 false true false false) := by
  refine returnsInHanded_of_change (C := Try.checked) own started (by kernel_rfl) Try.func4
    (ChangeSpec.witness6 (enc := enc) (C := Try.checked) false ⟨#[], #[.slice none 0 0], []⟩ 8 (by kernel_rfl) (by kernel_rfl) (by kernel_rfl) (by kernel_rfl)) ?_
  intro W base args ds gs before hval0 hW hcnd _
  have hval : ∀ (j : Nat) t v, Try.f4.params[j]? = some t → args[j]? = some v → Value.okWide Try.prog W .any base t v := hval0
  have hW' := hW
  obtain ⟨p, q, hA0, hV, rfl, hfz, hnd⟩ := hW
  have hA : DataW.TrodAll enc Try.prog W 0 (fun _ => true) true Try.f4.params.toList args.toList ds p := hA0
  rw [Try.params4] at hA hval
  obtain ⟨v0, vs0, d0, ds0, p0, q0, hargs, rfl, rfl, h0, r0⟩ := trodAll_cons hA
  obtain ⟨rfl, rfl, rfl⟩ := trodAll_nil r0
  obtain rfl : args = #[v0] := by cases args; simp_all
  obtain ⟨rfl, rfl⟩ := trodVars_none hV
  obtain ⟨a0, len0, cap0, rfl⟩ := okWide_slice Try.underlying30 (hval 0 30 v0 rfl rfl)
  have k0 := h0
  have lt0 : ∀ x ∈ p0, x.block < W.heap.size := by obtain ⟨m, hm⟩ := k0; exact DataW.trod_lt m _ _ _ hm
  obtain ⟨z0, w0⟩ : ∃ zs, IsRow .i64 W a0 len0 cap0 zs := by
    obtain ⟨fuel, hf⟩ := h0
    rcases open_ints Try.underlying30 Try.underlying2 (by kernel_rfl) hf with ⟨hcs, _⟩ | ⟨x, l, c, zs, hcs, _, hl, hm, hz, _, hcell, hwz⟩
    · simp [Value.cells] at hcs
      obtain ⟨rfl, rfl, rfl⟩ := hcs
      exact ⟨[], .inl ⟨rfl, rfl, rfl, rfl⟩⟩
    · simp [Value.cells] at hcs
      obtain ⟨rfl, rfl, rfl⟩ := hcs
      exact ⟨zs, .inr ⟨_, rfl, hl, hm, by simpa using hz, hcell, hwz⟩⟩
  clear hA0 hval0
  refine (walk a0 len0 cap0 z0 W w0).mono fun e W' ⟨he, bel⟩ => ?_
  subst he
  exact ⟨_, rfl, _, _, _, [], _, [], hW', trodAll_mk1 (shut_bool Try.underlying4 _), (trodAll_cons_mk (Below.trod laidOut (by kernel_rfl) (of_decide_eq_true (by kernel_rfl)) k0 bel lt0) trodAll_mk0), rfl, bel.frame _, fun h => by cases h⟩

theorem over : Rows.numSumsRow.holds Try.pinned (OpenSpec.ofChange Rows.numSumsSpec) :=
  OpenClaim.holds_of_wide 4 Try.f4 rfl rfl rfl rfl rfl rfl rfl ⟨rfl, rfl, rfl, rfl, rfl⟩ rfl rfl rfl rfl rfl (by kernel_rfl) Try.func4 (by kernel_rfl)
    (of_decide_eq_true (by kernel_rfl)) (by unfold Func.isWrapper; first | (rw [if_pos (by decide +kernel)]; kernel_rfl) | (rw [if_neg (by decide +kernel)]; exact ⟨rfl, rfl⟩))
    (fun os started H enc _ => lifted os started H enc)

/-- ████ THE STATEMENT ████ -/
theorem proved : Rows.NumSumsSaid := over
#print axioms proved
end Go.Proofs.Ytkncgpklnfljfaa.numSums
