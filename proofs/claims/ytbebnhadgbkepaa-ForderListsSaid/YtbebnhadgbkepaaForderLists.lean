/- Sort, Least, Most and Count of forder answer of any list of floats what the document says, and leave the list as it was. Conditions: none: every list of words of 64 bits, nil too (of more than 100 the law asks only what it asks of any). -/
import Derived.Test.YtbebnhadgbkepaaRows
import Derived.WalkKit
import Derived.ProofKit
import Derived.OpenShut
import Derived.ShutString
import Derived.ChangeOld
import Derived.Below
import Derived.Test.YtbebnhadgbkepaaForderAwake
import Derived.Test.YtbebnhadgbkepaaForderRefSort
import Derived.Test.YtbebnhadgbkepaaKeyPdq
namespace Go.Proofs.Ytbebnhadgbkepaa.forderLists
open Go.ChangeShapes Go.WideShapes Go.ChangeAt Go.RowKit FbitPure ForderPure
open Go.ChangeMaps (open_string shut_string)
set_option linter.unusedVariables false

theorem own : ownKnob Try.prog.godebug = none := by kernel_rfl
theorem laidOut : laidOutB Try.prog = true := by kernel_rfl

/-- WHAT THE WALK IS TOLD OF A SLICE OF INTEGERS THAT CAME IN: it is nil; or it leads to a row of 'cap' cells, the numbers 'zs' (the first 'len' are its elements, the rest its spare room), each fitting its kind. -/
def IsRow (k : IntKind) (w : World) (a : Option Addr) (len cap : Nat) (zs : List Int) : Prop :=
  (a = none ∧ len = 0 ∧ cap = 0 ∧ zs = []) ∨
  ∃ x, a = some x ∧ len ≤ cap ∧ cap ≤ maxLen ∧ zs.length = cap ∧ (∀ i, i < zs.length → w.cell? (x.add i) = some (.int k (zs.getD i 0))) ∧ ∀ n ∈ zs, (Lit.int k n).wf = true

set_option maxHeartbeats 400000 in
theorem rows_readsU {w : World} {x : Addr} {len cap : Nat} {zs : List Int} (hl : len ≤ cap) (hz : zs.length = cap) (hcell : ∀ i, i < zs.length → w.cell? (x.add i) = some (.int .u64 (zs.getD i 0)))
    (hwz : ∀ n ∈ zs, (Lit.int .u64 n).wf = true) : ∃ l : List Nat, l.length = len ∧ Wide l ∧ ReadsE encU w.heap.size w (some x) l := by
  have hlen : ((zs.take len).map Int.toNat).length = len := by rw [List.length_map, List.length_take]; omega
  have hget : ∀ i, i < len → (((zs.take len).map Int.toNat).getD i 0 : Int) = zs.getD i 0 := by
    intro i hi
    have hi' : i < zs.length := by omega
    have hb := (bounds_u64 (hwz _ (List.getElem_mem hi'))).1
    simp [List.getD_eq_getElem?_getD, hi, hi']
    omega
  refine ⟨(zs.take len).map Int.toNat, hlen, wide_iff.2 fun n hn => ?_, ?_⟩
  · obtain ⟨z, hz', rfl⟩ := List.mem_map.1 hn
    have := bounds_u64 (hwz z (List.mem_of_mem_take hz'))
    omega
  · by_cases h0 : len = 0
    · left; rw [h0]; simp
    · right
      have hc0 := hcell 0 (by omega)
      obtain ⟨b, off, spot⟩ := x
      have hspot : spot = none := by simpa [Addr.add] using World.cell?_spot hc0
      subst hspot
      refine ⟨b, off, rfl, World.block_lt_of_cell? w _ hc0, fun i hi => ?_⟩
      rw [hlen] at hi
      unfold encU
      rw [hget i hi]
      have := hcell i (by omega)
      rw [addr_add] at this
      exact this
set_option maxHeartbeats 2000000 in
set_option maxRecDepth 100000 in
theorem lists_walk (a : Option Addr) (cap : Nat) (l : List Nat) (w : World) (hr : Wide l) (hl : ReadsE encU w.heap.size w a l) (hlen : l.length ≤ 9223372036854775807) :
    Calls Try.prog 4 #[.slice a l.length cap] w fun e w' => e = .returned (.bool true) ∧ Below w.heap.size w w' := by
  by_cases h100 : 100 < l.length
  · have t1 : decide (100 < (l.length : Int)) = true := by simp; omega
    clear hr hl
    go_enter Try.func4, Try.ntmps4
    go_wp2_with (first | (go_at_call 10; refine (awake_any _).mono ?_; rintro e w' ⟨rfl, hb⟩; have HB := Lib.hid hb; clear hb))
    go_ret
    exact ⟨rfl, HB.out⟩
  · have t1 : decide (100 < (l.length : Int)) = false := by simp; omega
    have h1000 : l.length ≤ 1000 := by omega
    have HR := Lib.hid hr
    have HL := Lib.hid hl
    have HLen := Lib.hid h1000
    clear hr hl h1000
    go_enter Try.func4, Try.ntmps4
    go_wp2_with fail
    refine (floats_any a cap l w HR.out HL.out HLen.out).mono ?_
    rintro e w1 ⟨p, cf, rfl, hb1, hF⟩
    have HB1 := Lib.hid hb1
    have HF := Lib.hid hF
    clear hb1 hF
    go_wp2_with fail
    refine (fsort_any 1000 sort_1000 (Nat.le_refl _) p cf l w1 HR.out HF.out HLen.out).mono ?_
    rintro e w2 ⟨rfl, hb2, hG⟩
    have HB2 := Lib.hid hb2
    have HG : Hid (ReadsE encF w2.heap.size w2 (some ⟨w1.heap.size, 0, none⟩) (sf l)) := hG
    have HB02 : Hid (Below w.heap.size w w2) := HB1.out.trans (hb2.mono HB1.out.size)
    clear hb2 hG
    go_wp2_with fail
    refine (refSort_any a cap l w2 HR.out ((HL.out.on HB02.out).mono HB02.out.size) HLen.out).mono ?_
    rintro e w3 ⟨p3, c3, rfl, hb3, hW⟩
    have HW := Lib.hid hW
    have HB03 : Hid (Below w.heap.size w w3) := HB02.out.trans (hb3.mono HB02.out.size)
    have HG3 : Hid (ReadsE encF w3.heap.size w3 (some ⟨w1.heap.size, 0, none⟩) (sf l)) := (HG.out.on hb3).mono hb3.size
    have HF3 : Hid (ReadsE encF w3.heap.size w3 p l) := by
      have h23 := hb3.size
      have h12 := HB2.out.size
      exact ((HF.out.on HB2.out).on (hb3.mono h12)).mono (Nat.le_trans h12 h23)
    have HL3 : Hid (ReadsE encU w3.heap.size w3 a l) := (HL.out.on HB03.out).mono HB03.out.size
    have HSL : Hid ((sf l).length = l.length) := len_sf l
    clear hb3 hW HG HF
    go_wp2
    go_loopw [6] (fun i wr => ∃ k : Nat, i = .int .i64 k ∧ k ≤ l.length ∧ Hid (Below w3.heap.size w3 wr)) (fun i _ => l.length - (intOf i).toNat)
    case atStart => exact ⟨0, rfl, Nat.zero_le _, Below.refl _ _⟩
    case round =>
      obtain ⟨k, rfl, hk, HK⟩ := hrel
      by_cases hlt : k < l.length
      · obtain ⟨b0, o0, e0, -, h0⟩ := (HG3.out.on HK.out).at (k := k) (by rw [HSL.out]; exact hlt)
        obtain ⟨rfl, rfl⟩ : b0 = w1.heap.size ∧ o0 = 0 := by cases e0; exact ⟨rfl, rfl⟩
        obtain ⟨b1, o1, rfl, -, h1⟩ := (HW.out.on HK.out).at (k := k) (by rw [HSL.out]; exact hlt)
        obtain ⟨b2, o2, rfl, -, h2⟩ := (HF3.out.on HK.out).at hlt
        obtain ⟨b3, o3, rfl, -, h3⟩ := (HL3.out.on HK.out).at hlt
        rw [Nat.zero_add] at h0
        unfold encF at h0 h2
        unfold encU at h1 h3
        have hwx := sf_wide HR.out k
        have hwy := HR.out k
        have hbx := sf_bits HR.out hlt
        generalize (sf l).getD k 0 = x at *
        generalize l.getD k 0 = y at *
        go_wp2
        go_quiet (first
          | (go_at_call 14; refine Calls.quiet_of_same (flip_same (bits_any _ (by assumption) _)))
          | (go_at_call 15; refine Calls.quiet_of_same (flip_same (refBits_any _ (by assumption) _))))
        go_wp2
        go_roundw
        case rel => exact ⟨k + 1, by go_num, hlt, below_drewN HK.out _⟩
        case measure => (simp [intOf] <;> omega)
      · have hke : k = l.length := by omega
        subst hke
        go_wp2_with fail
        refine (least_any p cf l wr HR.out ((HF3.out.on HK.out).mono HK.out.size) hlen).mono ?_
        rintro e w4 ⟨rfl, rfl⟩
        go_wp2_with fail
        refine (refLeast_any a cap l wr HR.out ((HL3.out.on HK.out).mono HK.out.size) HLen.out).mono ?_
        rintro e w5 ⟨rfl, hb⟩
        have HK5 : Hid (Below w3.heap.size w3 w5) := HK.out.trans (hb.mono HK.out.size)
        clear hb
        go_wp2_with fail
        refine (most_any p cf l w5 HR.out ((HF3.out.on HK5.out).mono HK5.out.size) hlen).mono ?_
        rintro e w6 ⟨rfl, rfl⟩
        go_wp2_with fail
        refine (refMost_any a cap l w5 HR.out ((HL3.out.on HK5.out).mono HK5.out.size) HLen.out).mono ?_
        rintro e w6 ⟨rfl, hb⟩
        have HK6 : Hid (Below w3.heap.size w3 w6) := HK5.out.trans (hb.mono HK5.out.size)
        clear hb
        go_wp2_with fail
        refine (count_any 1000 sort_1000 (Nat.le_refl _) p cf l w6 HR.out ((HF3.out.on HK6.out).mono HK6.out.size) HLen.out).mono ?_
        rintro e w7 ⟨rfl, hb⟩
        have HK7 : Hid (Below w3.heap.size w3 w7) := HK6.out.trans (hb.mono HK6.out.size)
        clear hb
        go_wp2_with fail
        refine (refCount_any a cap l w7 HR.out ((HL3.out.on HK7.out).mono HK7.out.size) HLen.out).mono ?_
        rintro e w8 ⟨rfl, hb⟩
        have HK8 : Hid (Below w3.heap.size w3 w8) := HK7.out.trans (hb.mono HK7.out.size)
        clear hb
        go_wp2_with fail
        refine (awake_any w8).mono ?_
        rintro e w9 ⟨rfl, hb⟩
        have HB9 : Hid (Below w.heap.size w w9) := by
          have h := HB03.out.trans (HK8.out.mono HB03.out.size)
          exact h.trans (hb.mono h.size)
        clear hb
        go_wp2
        go_ret
        exact ⟨rfl, HB9.out⟩
theorem walk (a0 : Option Addr) (len0 cap0 : Nat) (z0 : List Int) (w : World) (w0 : IsRow .u64 w a0 len0 cap0 z0) :
    Calls Try.prog 4 #[.slice a0 len0 cap0] w fun e w' => e = .returned (.bool true) ∧ Below w.heap.size w w' := by
  rcases w0 with ⟨rfl, rfl, rfl, rfl⟩ | ⟨x, rfl, hl, hm, hz, hcell, hwz⟩
  · exact lists_walk none 0 [] w (wide_iff.2 (by simp)) (Or.inl rfl) (by simp)
  · obtain ⟨l, hlen, hr, hR⟩ := rows_readsU hl hz hcell hwz
    have := lists_walk (some x) cap0 l w hr hR (by unfold maxLen at hm; omega)
    rw [hlen] at this
    exact this

/-! ### THE ROW's STEP: WRITTEN OUT: LEAVE IT -/
set_option maxRecDepth 100000 in
theorem lifted (os : Os) (started : os.Started) (H : Type) (enc : TypeId × Value → H) :
    ReturnsInHanded {} Try.checked os 4 .any (Rows.forderListsSpec.pre6 enc Try.prog Try.f4 Rows.forderListsRow.domain false) (Rows.forderListsSpec.post enc Try.prog Try.f4 false true false false) := by
  refine returnsInHanded_of_change (C := Try.checked) own started (by kernel_rfl) Try.func4
    (ChangeSpec.witness6 (enc := enc) (C := Try.checked) false ⟨#[], #[.slice none 0 0], []⟩ 8 (by kernel_rfl) (by kernel_rfl) (by kernel_rfl) (by kernel_rfl)) ?_
  intro W base args ds gs before hval0 hW hcnd _
  have hval : ∀ (j : Nat) t v, Try.f4.params[j]? = some t → args[j]? = some v → Value.okWide Try.prog W .any base t v := hval0
  have hW' := hW
  obtain ⟨p, q, hA0, hV, rfl, hfz, hnd⟩ := hW
  have hA : DataW.TrodAll enc Try.prog W 0 (fun _ => true) true Try.f4.params.toList args.toList ds p := hA0
  rw [Try.params4] at hA hval
  obtain ⟨v0, vs0, d0, ds0, p0, q0, hargs, rfl, rfl, h0, r0⟩ := trodAll_cons hA
  obtain ⟨rfl, rfl, rfl⟩ := trodAll_nil r0
  obtain rfl : args = #[v0] := by cases args; simp_all
  obtain ⟨rfl, rfl⟩ := trodVars_none hV
  obtain ⟨a0, len0, cap0, rfl⟩ := okWide_slice Try.underlying30 (hval 0 30 v0 rfl rfl)
  have k0 := h0
  have lt0 : ∀ x ∈ p0, x.block < W.heap.size := by obtain ⟨m, hm⟩ := k0; exact DataW.trod_lt m _ _ _ hm
  obtain ⟨z0, w0⟩ : ∃ zs, IsRow .u64 W a0 len0 cap0 zs := by
    obtain ⟨fuel, hf⟩ := h0
    rcases open_ints Try.underlying30 Try.underlying22 (by kernel_rfl) hf with ⟨hcs, _⟩ | ⟨x, l, c, zs, hcs, _, hl, hm, hz, _, hcell, hwz⟩
    · simp [Value.cells] at hcs
      obtain ⟨rfl, rfl, rfl⟩ := hcs
      exact ⟨[], .inl ⟨rfl, rfl, rfl, rfl⟩⟩
    · simp [Value.cells] at hcs
      obtain ⟨rfl, rfl, rfl⟩ := hcs
      exact ⟨zs, .inr ⟨_, rfl, hl, hm, by simpa using hz, hcell, hwz⟩⟩
  clear hA0 hval0
  refine (walk a0 len0 cap0 z0 W w0).mono fun e W' ⟨he, bel⟩ => ?_
  subst he
  exact ⟨_, rfl, _, _, _, [], _, [], hW', trodAll_mk1 (shut_bool Try.underlying4 _), (trodAll_cons_mk (Below.trod laidOut (by kernel_rfl) (of_decide_eq_true (by kernel_rfl)) k0 bel lt0) trodAll_mk0), rfl, bel.frame _, fun h => by cases h⟩

theorem over : Rows.forderListsRow.holds Try.pinned (OpenSpec.ofChange Rows.forderListsSpec) :=
  OpenClaim.holds_of_wide 4 Try.f4 rfl rfl rfl rfl rfl rfl rfl ⟨rfl, rfl, rfl, rfl, rfl⟩ rfl rfl rfl rfl rfl (by kernel_rfl) Try.func4 (by kernel_rfl)
    (of_decide_eq_true (by kernel_rfl)) (by unfold Func.isWrapper; first | (rw [if_pos (by decide +kernel)]; kernel_rfl) | (rw [if_neg (by decide +kernel)]; exact ⟨rfl, rfl⟩))
    (fun os started H enc _ => lifted os started H enc)

/-- ████ THE STATEMENT ████ -/
theorem proved : Rows.ForderListsSaid := over
#print axioms proved
end Go.Proofs.Ytbebnhadgbkepaa.forderLists
