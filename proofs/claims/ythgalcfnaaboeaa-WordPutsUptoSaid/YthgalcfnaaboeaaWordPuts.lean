/- The line that the program makes of any words, and the text of many lines, are what the document says, or there is none. Conditions: what comes in holds together at most 1048576 values and letters (the second form of the statement: of more the library's Builder may want more than 2^48 bytes, and ends the call). -/
import Derived.Test.YthgalcfnaaboeaaRowsT
import Derived.Test.YthgalcfnaaboeaaWordAwake
import Derived.Test.YthgalcfnaaboeaaRows
import Derived.WalkKit
import Derived.ProofKit
import Derived.OpenShut
import Derived.JoinedCond
import Derived.Below
namespace Go.Proofs.Ythgalcfnaaboeaa.wordPuts
open Go.ChangeShapes Go.WideShapes Go.ChangeAt Go.RowKit WordPure Str Wd
set_option maxRecDepth 100000 in
set_option maxHeartbeats 4000000 in
theorem walk_puts (a : Option Addr) (cap : Nat) (ll : List (List (List UInt8))) (w : World) (hl : RowsT w.heap.size w a ll) (hs : bulkT ll ≤ 50000000) :
    Calls Try.prog 4 #[.slice a ll.length cap] w fun e w' => e = .returned (.bool true) ∧ Below w.heap.size w w' := by
  have HL := Lib.hid hl
  have HS := Lib.hid hs
  have hlen : ll.length ≤ 50000000 := Nat.le_trans (bulkT_len ll) hs
  clear hl hs
  go_enter Try.func4, Try.ntmps4
  go_wp2
  go_loopw [3, 4] (fun v i wr => ∃ (n k : Nat), v = .int .i64 n ∧ i = .int .i64 k ∧ k ≤ ll.length ∧ k ≤ 101 ∧ n ≤ 300000 * k ∧ w = wr) (fun _ i _ => ll.length - (intOf i).toNat)
  case atStart => exact ⟨0, 0, rfl, rfl, Nat.zero_le _, by omega, by omega, rfl⟩
  case round =>
    obtain ⟨n, k, rfl, rfl, hkl, hk1, hn, rfl⟩ := hrel
    by_cases hk : k < ll.length ∧ k < 101
    · obtain ⟨hk, hk2⟩ := hk
      obtain ⟨b, off, p, c, rfl, hbN, hck, hpc, hr⟩ := HL.out.at hk
      have HR := Lib.hid hr
      have HSS : Hid (Short 50000000 ll[k]) := Lib.hid (by have := bulkT_mem (List.getElem_mem hk); have := HS.out; unfold Short; omega)
      have hpl : ll[k].length ≤ 50000000 := by have := HSS.out; unfold Short at this; omega
      clear hr
      generalize ll[k] = ps at *
      go_wp2
      go_loopw [3, 5] (fun v i wr2 => ∃ (m j : Nat), v = .int .i64 m ∧ i = .int .i64 j ∧ j ≤ ps.length ∧ j ≤ 101 ∧ m ≤ 300000 * k + 101 + 2001 * j ∧ w = wr2) (fun _ i _ => ps.length - (intOf i).toNat)
      case atStart => exact ⟨n + min ps.length 101, 0, by go_num, rfl, Nat.zero_le _, by omega, by omega, rfl⟩
      case round =>
        obtain ⟨m, j, rfl, rfl, hjl, hj1, hm, rfl⟩ := hrel
        by_cases hj : j < ps.length ∧ j < 101
        · obtain ⟨hj, hj2⟩ := hj
          obtain ⟨b2, off2, rfl, hb2N, hck2⟩ := HR.out.at hj
          unfold encS at hck2
          have HXS : Hid ((⟨ps[j].toArray⟩ : ByteArray).size ≤ 50000000) := Lib.hid (by have := HSS.out.one hj; show ps[j].toArray.size ≤ _; rw [List.size_toArray]; exact this)
          generalize (⟨ps[j].toArray⟩ : ByteArray) = x at *
          have hx := HXS.out
          go_wp2
          go_roundw
          case rel => exact ⟨m + min x.size 2001, j + 1, by go_num, by go_num, hj, by omega, by omega, by trivial⟩
          case measure => simp [intOf]; omega
        · have hj3 : ¬ j < ps.length ∨ (j < ps.length ∧ ¬ j < 101) := by omega
          clear hj
          rcases hj3 with hj3 | hj3
          all_goals
            go_wp2
            go_roundw
            case rel => exact ⟨m, k + 1, rfl, by go_num, hk, by omega, by omega, by trivial⟩
            case measure => simp [intOf]; omega
    · have hk3 : ¬ k < ll.length ∨ (k < ll.length ∧ ¬ k < 101) := by omega
      by_cases hbig : 100 < ll.length ∨ (¬ 100 < ll.length ∧ 2000 < n)
      · have HAW := Lib.hid (wordAwake_any w)
        clear hk
        rcases hk3 with hk3 | hk3 <;> rcases hbig with hbig | hbig <;> try (exfalso; omega)
        all_goals
          go_wp2_with fail
          refine HAW.out.mono ?_
          rintro e wc ⟨rfl, hbc⟩
          have HBc := Lib.hid hbc
          clear hbc HAW
          go_wp2
          go_ret
          exact ⟨rfl, HBc.out⟩
      · obtain ⟨hl100, hn2000⟩ : ¬ 100 < ll.length ∧ ¬ 2000 < n := by omega
        have hke : ¬ k < ll.length := by omega
        have HZ := Lib.hid (Below.refl w.heap.size w)
        clear hbig hk hk3
        go_wp2
        go_loopw [6] (fun i wr2 => ∃ j : Nat, i = .int .i64 j ∧ j ≤ ll.length ∧ Hid (Below w.heap.size w wr2)) (fun i _ => ll.length - (intOf i).toNat)
        case atStart => exact ⟨0, rfl, Nat.zero_le _, HZ⟩
        case round =>
          obtain ⟨j, rfl, hjl, HB⟩ := hrel
          by_cases hj : j < ll.length
          · obtain ⟨b, off, p, c, rfl, hbN, hck, hpc, hr⟩ := (HL.out.over HB.out (Nat.le_refl _)).at hj
            have HSS : Hid (Short 50000000 ll[j]) := Lib.hid (by have := bulkT_mem (List.getElem_mem hj); have := HS.out; unfold Short; omega)
            have HI := Lib.hid (line_any p c ll[j] wr hr hpc (by have := HSS.out; unfold Short at this ⊢; omega))
            have HR : Hid (∀ w1, Below wr.heap.size wr w1 → Calls Try.prog 17 #[.slice p ll[j].length c] w1 fun e w' => e = .returned (putV (lineT ll[j]) (lineB ll[j])) ∧ Below w1.heap.size w1 w') := Lib.hid fun w1 hb => refLine_any p c ll[j] w1 (hr.over hb (Nat.le_refl _)) HSS.out
            unfold putV at HR
            generalize (⟨(lineT ll[j]).toArray⟩ : ByteArray) = X at *
            generalize lineB ll[j] = lb at *
            generalize ll[j] = ps at *
            clear hr
            go_wp2_with fail
            refine HI.out.mono ?_
            rintro e w1 ⟨rfl, hb1⟩
            have HB1 := Lib.hid (HB.out.trans (hb1.mono HB.out.size))
            have HR1 := Lib.hid (HR.out w1 hb1)
            have hck1 := (hb1.cell (p := ⟨b, off + j, none⟩) (World.block_lt_of_cell? wr _ hck)).trans hck
            clear hb1 HI HR hck
            go_wp2_with fail
            refine HR1.out.mono ?_
            rintro e w2 ⟨rfl, hb2⟩
            have HB2 := Lib.hid (HB1.out.trans (hb2.mono HB1.out.size))
            clear hb2 HR1 hck1
            go_wp2
            go_roundw
            case rel => exact ⟨j + 1, by go_num, hj, HB2⟩
            case measure => simp [intOf]; omega
          · have HI := Lib.hid (text_any a cap ll wr (HL.out.over HB.out (Nat.le_refl _)) HS.out)
            have HR : Hid (∀ w1, Below wr.heap.size wr w1 → Calls Try.prog 19 #[.slice a ll.length cap] w1 fun e w' => e = .returned (putV (textT ll) (textB ll)) ∧ Below w1.heap.size w1 w') := Lib.hid fun w1 hb => refText_any a cap ll w1 ((HL.out.over HB.out (Nat.le_refl _)).over hb (Nat.le_refl _)) HS.out
            unfold putV at HR
            generalize (⟨(textT ll).toArray⟩ : ByteArray) = X at *
            generalize textB ll = tb at *
            go_wp2_with fail
            refine HI.out.mono ?_
            rintro e w1 ⟨rfl, hb1⟩
            have HB1 := Lib.hid (HB.out.trans (hb1.mono HB.out.size))
            have HR1 := Lib.hid (HR.out w1 hb1)
            clear hb1 HI HR
            go_wp2_with fail
            refine HR1.out.mono ?_
            rintro e w2 ⟨rfl, hb2⟩
            have HB2 := Lib.hid (HB1.out.trans (hb2.mono HB1.out.size))
            clear hb2 HR1
            go_wp2_with fail
            refine (wordAwake_any w2).mono ?_
            rintro e w3 ⟨rfl, hb3⟩
            have HB3 := Lib.hid (HB2.out.trans (hb3.mono HB2.out.size))
            clear hb3
            go_wp2
            go_ret
            exact ⟨rfl, HB3.out⟩
theorem own : ownKnob Try.prog.godebug = none := by kernel_rfl
theorem laidOut : laidOutB Try.prog = true := by kernel_rfl
/-- What the bound gives. -/
theorem bulk_one {H : Type} {d : DataW H} (hk : Rows.uptoSmall H [d] = true) : Rows.uptoBulk d ≤ 1048576 := by
  have h : Rows.uptoBulkAll [d] ≤ 1048576 := of_decide_eq_true hk
  simp only [Rows.uptoBulkAll] at h
  omega
theorem contract (H : Type) (enc : TypeId × Value → H) (W : World) (base : Nat) (args : Array Value) (ds gs : List (DataW H)) (before : List MemPlace)
    (hval0 : ∀ (j : Nat) t v, Try.f4.params[j]? = some t → args[j]? = some v → Value.okWide Try.prog W .any base t v)
    (hW : DataW.Whole enc Try.prog Try.f4.params.toList Rows.wordPutsSpec.vars false W args.toList ds gs before) (hk : Rows.uptoSmall H (ds ++ gs) = true) :
    Calls Try.prog 4 args W fun e W' => ∃ v, e = .returned v ∧ Rows.wordPutsSpec.post enc Try.prog Try.f4 false true false false W args v W' := by
  have hval : ∀ (j : Nat) t v, Try.f4.params[j]? = some t → args[j]? = some v → Value.okWide Try.prog W .any base t v := hval0
  have hW' := hW
  obtain ⟨p, q, hA0, hV, rfl, hfz, hnd⟩ := hW
  have hA : DataW.TrodAll enc Try.prog W 0 (fun _ => true) true Try.f4.params.toList args.toList ds p := hA0
  rw [Try.params4] at hA hval
  obtain ⟨v0, vs0, d0, ds0, p0, q0, hargs, rfl, rfl, h0, r0⟩ := trodAll_cons hA
  obtain ⟨rfl, rfl, rfl⟩ := trodAll_nil r0
  obtain rfl : args = #[v0] := by cases args; simp_all
  obtain ⟨rfl, rfl⟩ := trodVars_none hV
  obtain ⟨a0, len0, cap0, rfl⟩ := okWide_slice Try.underlying33 (hval 0 33 v0 rfl rfl)
  have k0 := h0
  have lt0 : ∀ x ∈ p0, x.block < W.heap.size := by obtain ⟨m, hm⟩ := k0; exact DataW.trod_lt m _ _ _ hm
  have hk' : Rows.uptoSmall H [d0] = true := by simpa using hk
  obtain ⟨ll, rfl, hl, hb⟩ : ∃ ll : List (List (List UInt8)), ll.length = len0 ∧ RowsT W.heap.size W a0 ll ∧ bulkT ll ≤ Rows.uptoBulk d0 := by
    obtain ⟨fuel, hf⟩ := h0
    exact open_rowsT Try.underlying33 Try.underlying22 Try.underlying9 (by kernel_rfl) (by kernel_rfl) hf
  clear hA0 hval0
  refine (walk_puts a0 cap0 ll W hl (by have := bulk_one hk'; omega)).mono fun e W' ⟨he, bel⟩ => ?_
  subst he
  exact ⟨_, rfl, _, _, _, [], _, [], hW', trodAll_mk1 (shut_bool Try.underlying4 _), (trodAll_cons_mk (Below.trod laidOut (by kernel_rfl) (of_decide_eq_true (by kernel_rfl)) k0 bel lt0) trodAll_mk0), rfl, bel.frame _, fun h => by cases h⟩
set_option maxRecDepth 100000 in
theorem lifted (os : Os) (started : os.Started) (H : Type) (enc : TypeId × Value → H) (F : Stop.Interp) :
    ReturnsInHanded {} Try.checked os 4 .any ((Rows.OpenSpec.upto Rows.wordPutsSpec).pre6 enc Try.prog Try.f4 Rows.wordPutsUptoRow.domain false) (((Rows.OpenSpec.upto Rows.wordPutsSpec).at F).post enc Try.prog Try.f4 false true false false) := by
  refine returnsInHanded_of_cond (C := Try.checked) (s := Rows.OpenSpec.upto Rows.wordPutsSpec) (k := Rows.uptoSmall) rfl own started (by kernel_rfl) Try.func4
    (OpenSpec.witness (enc := enc) (C := Try.checked) (s := Rows.OpenSpec.upto Rows.wordPutsSpec) (k := Rows.uptoSmall) rfl false ⟨#[], #[.slice none 0 0], []⟩ 8 (by kernel_rfl) (by kernel_rfl) (by kernel_rfl)
      (x := ([.nil], [], [])) (by kernel_rfl) rfl (by kernel_rfl)) ?_
  intro W base args ds gs before hval hW _ hk _
  exact contract H enc W base args ds gs before hval hW hk
/-- The statement's second form. -/
theorem proved : Rows.WordPutsUptoSaid :=
  OpenClaim.holds_of_cond 4 Try.f4 rfl rfl rfl rfl rfl rfl rfl ⟨rfl, rfl, rfl, rfl, rfl⟩ rfl rfl rfl rfl rfl (by kernel_rfl) Try.func4 (by kernel_rfl)
    (of_decide_eq_true (by kernel_rfl)) (by unfold Func.isWrapper; first | (rw [if_pos (by decide +kernel)]; kernel_rfl) | (rw [if_neg (by decide +kernel)]; exact ⟨rfl, rfl⟩))
    (fun os started H enc _ F => lifted os started H enc F)
#print axioms proved
end Go.Proofs.Ythgalcfnaaboeaa.wordPuts
