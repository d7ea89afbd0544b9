/- A contract for the document's own answer on a text's number. -/
import Derived.Test.YtdianpdjcgcifaaDoorDecForm
namespace Go.Proofs.YtdianpdjcgcifaaDoor
open Go.RowKit Go.ChangeShapes DecPure
/-- One byte more, as the document reckons. -/
def stepV (low : Bool) (n : Int) (c : UInt8) : Int := if c = 45 then n else wrap64 (wrap64 (10 * n) + (if low then -(dv c : Int) else (dv c : Int)))
def accV (low : Bool) (l : List UInt8) : Int := l.foldl (stepV low) 0
theorem acc_snoc (low : Bool) (l : List UInt8) (c : UInt8) : accV low (l ++ [c]) = stepV low (accV low l) c := by unfold accV; rw [List.foldl_append]; rfl
theorem wrap_add (x d : Int) : wrap64 (wrap64 (10 * wrap64 x) + d) = wrap64 (10 * x + d) := by unfold wrap64; omega
theorem acc_dig (low : Bool) (l : List UInt8) (h : ∀ c ∈ l, dig c = true) : accV low l = wrap64 (if low then -(numV l : Int) else (numV l : Int)) := by
  induction l using snoc_ind with
  | h0 => cases low <;> simp [accV, numV, wrap64]
  | hs l c ih =>
    have hc := h c (by simp)
    have hne : c ≠ 45 := by intro e; rw [e] at hc; exact absurd hc (by decide)
    rw [acc_snoc, ih (fun a ha => h a (by simp [ha])), numV_snoc]
    unfold stepV
    rw [if_neg hne]
    cases low with
    | true => simp only [if_true]; rw [wrap_add]; congr 1; omega
    | false => simp only [Bool.false_eq_true, if_false]; rw [wrap_add]; congr 1
/-- Over all of a number's text: its number, as there is room. -/
theorem acc_form {l : List UInt8} (h : formB l = true) : accV (negB l) l = wrap64 (valI l) := by
  have hd := plain_dig ((form_iff l).1 h).1
  have ha := acc_dig (negB l) (tailD l) hd
  have hv : valI l = if negB l then -(numV (tailD l) : Int) else (numV (tailD l) : Int) := rfl
  rw [hv, ← ha]
  cases hn : negB l with
  | true =>
    conv => lhs; rw [neg_true hn]
    show (tailD l).foldl (stepV true) (stepV true 0 45) = _
    rw [show stepV true 0 45 = 0 from if_pos rfl]; rfl
  | false => rw [neg_false hn]
theorem wrap_rng (x : Int) : -9223372036854775808 ≤ wrap64 x ∧ wrap64 x ≤ 9223372036854775807 := by unfold wrap64; omega
theorem wrap_fits {x : Int} (h : fitsI x = true) : wrap64 x = x := by
  have := (fits_iff x).1 h
  unfold wrap64; omega
theorem form_pos {s : ByteArray} (h : formB s.data.toList = true) : 0 < s.size := by
  rcases Nat.eq_zero_or_pos s.size with h0 | h0
  · have e : s.data.toList = [] := List.length_eq_zero_iff.1 (by have := Lib.size_eq s; omega)
    rw [e] at h
    exact absurd h (by decide)
  · exact h0
/-- A number's text holds digits, and - ahead of them at most. -/
theorem form_byte {s : ByteArray} (h : formB s.data.toList = true) (k : Nat) (hk : k < s.size) : s[k] = 45 ∨ (48 ≤ s[k].toNat ∧ s[k].toNat ≤ 57) := by
  have hm := mem_at s k hk
  have hd := plain_dig ((form_iff _).1 h).1
  cases hn : negB s.data.toList with
  | true =>
    rw [neg_true hn, List.mem_cons] at hm
    rcases hm with hm | hm
    · exact Or.inl hm
    · exact Or.inr ((dig_iff _).1 (hd _ hm))
  | false =>
    rw [neg_false hn] at hd
    exact Or.inr ((dig_iff _).1 (hd _ hm))
theorem agg_ii {k l : IntKind} {a b c d : Int} (h1 : a = b) (h2 : c = d) : Ending.returned (.agg #[.int k a, .int l c]) = .returned (.agg #[.int k b, .int l d]) := by rw [h1, h2]
set_option maxHeartbeats 2000000 in
theorem refParse_any (s : ByteArray) (hs : s.size ≤ 1000000) (w : World) :
    Calls Tryd.prog 9 #[.string s] w fun e w' => e = .returned (.agg #[.int .i64 (parseN s.data.toList), .int .i64 (parseE s.data.toList)]) ∧ Below w.heap.size w w' := by
  have hC := Lib.hid (refForm_any s (by omega) (w.alloc (.cells #[.int .i64 0, .int .i64 0] 28)))
  have hW0 : Below w.heap.size w (w.alloc (.cells #[.int .i64 0, .int .i64 0] 28)) := (Below.refl _ _).alloc (Nat.le_refl _) _
  have HT0 := Lib.hid (TwoAt.new w (.int .i64 0) (.int .i64 0) 28)
  have HB0 := Lib.hid hW0
  clear hW0
  cases hfm : formB s.data.toList with
  | false =>
    obtain ⟨p1, p2⟩ := parse_form hfm
    rw [hfm] at hC
    rw [p1, p2]
    clear hfm p1 p2
    go_enter Tryd.func9, Tryd.ntmps9
    go_wp2_with fail
    refine hC.out.mono ?_
    rintro e w' ⟨rfl, rfl⟩
    clear hC
    go_wp2
    exact bodyPost_ret (v := .agg #[.int .i64 0, .int .i64 2]) (by simp [results, Tryd.results9, go_sem]) rfl ⟨rfl, (Below.refl _ _).alloc (Nat.le_refl _) _⟩
  | true =>
    have hp0 := form_pos hfm
    have hn := neg_at hp0
    have hb := byte_is s[0] 45
    have HA := Lib.hid (acc_form hfm)
    have HY := Lib.hid (form_byte hfm)
    have HX := Lib.hid (fits_printed hfm (wrap64 (valI s.data.toList)) (wrap_rng _) wrap_fits)
    have HPI := Lib.hid (fun h => parse_fits hfm h)
    have HPO := Lib.hid (fun h => parse_wide hfm h)
    have HWF := Lib.hid (fun h : fitsI (valI s.data.toList) = true => wrap_fits h)
    rw [hfm] at hC
    have h45 : (((s[0].toNat : Nat) : Int) == 45) = negB s.data.toList := by rw [hn, ← hb]; rfl
    clear hn hb hfm
    have HK : Hid (w.heap.size < (w.alloc (.cells #[.int .i64 0, .int .i64 0] 28)).heap.size) := Lib.hid (by simp)
    generalize negB s.data.toList = low at *
    generalize parseN s.data.toList = pn at *
    generalize parseE s.data.toList = pe at *
    generalize W0e : w.alloc (.cells #[.int .i64 0, .int .i64 0] 28) = W0 at *
    go_enter Tryd.func9, Tryd.ntmps9
    go_wp2_with fail
    refine hC.out.mono ?_
    rintro e w' ⟨rfl, rfl⟩
    clear hC
    go_wp2
    go_loop [3, 5] (fun n i => ∃ k : Nat, i = .int .i64 k ∧ k ≤ s.size ∧ n = .int .i64 (accV low (s.data.toList.take k))) (fun _ i => s.size - (intOf i).toNat)
    case atStart => exact ⟨0, rfl, Nat.zero_le _, rfl⟩
    case round =>
      obtain ⟨k, rfl, hk, rfl⟩ := hrel
      by_cases hp : k < s.size
      · have HN : Hid (accV low (s.data.toList.take (k + 1)) = stepV low (accV low (s.data.toList.take k)) s[k]) := Lib.hid (by rw [take_next s k hp, acc_snoc])
        have hy := HY.out k hp
        generalize accV low (s.data.toList.take k) = a at *
        by_cases h45k : s[k] = 45
        · have HN' : Hid (accV low (s.data.toList.take (k + 1)) = a) := Lib.hid (by rw [HN.out]; exact if_pos h45k)
          have t : (((s[k].toNat : Nat) : Int) != 45) = false := by rw [h45k]; rfl
          clear h45k hy
          go_wp2
          go_round
          case rel => exact ⟨k + 1, by go_num, hp, by rw [HN'.out]⟩
          case measure => simp [intOf]; omega
        · have HN' : Hid (accV low (s.data.toList.take (k + 1)) = wrap64 (wrap64 (10 * a) + (if low then -(dv s[k] : Int) else (dv s[k] : Int)))) := Lib.hid (by rw [HN.out]; exact if_neg h45k)
          obtain ⟨g1, g2⟩ : 48 ≤ s[k].toNat ∧ s[k].toNat ≤ 57 := by rcases hy with hy | hy; exact absurd hy h45k; exact hy
          have t : (((s[k].toNat : Nat) : Int) != 45) = true := by rw [bne_iff_ne]; omega
          have g3 : (48 : Int) ≤ (s[k].toNat : Int) := by omega
          have g4 : (s[k].toNat : Int) ≤ 57 := by omega
          have HD : Hid ((dv s[k] : Int) = (s[k].toNat : Int) - 48) := Lib.hid (by unfold dv; omega)
          clear h45k hy
          cases low with
          | true =>
            go_wp2
            go_round
            case rel => exact ⟨k + 1, by go_num, hp, by rw [HN'.out, HD.out]; rfl⟩
            case measure => simp [intOf]; omega
          | false =>
            go_wp2
            go_round
            case rel => exact ⟨k + 1, by go_num, hp, by rw [HN'.out, HD.out]; rfl⟩
            case measure => simp [intOf]; omega
      · have hke : k = s.size := by omega
        rw [hke, List.take_of_length_le (by simp), HA.out]
        have hwr := wrap_rng (valI s.data.toList)
        have hL := Lib.size_eq s
        have HPr := Lib.hid (refPrint_any (wrap64 (valI s.data.toList)) hwr.1 hwr.2 W0)
        cases hfi : fitsI (valI s.data.toList) with
        | true =>
          obtain ⟨q1, q2⟩ := HPI.out hfi
          obtain ⟨q3, q4⟩ := HX.out.1 hfi
          rw [HWF.out hfi] at *
          have HR : Hid (valI s.data.toList = pn ∧ 0 = pe) := Lib.hid ⟨q2.symm, q1.symm⟩
          have HC : Hid (Calls Tryd.prog 12 #[.int .i64 (valI s.data.toList)] W0 fun e w' => e = .returned (.string s) ∧ Below W0.heap.size W0 w') := by
            have h := HPr.out
            rw [q4] at h
            exact Lib.hid h
          have hl : s.size ≤ 20 := by omega
          clear hL q1 q2 q3 q4 HPr HX HPI HPO HWF hfi hke hk hp HA
          generalize valI s.data.toList = v at *
          go_wp2_with fail
          refine HC.out.mono ?_
          rintro e w1 ⟨rfl, hb1⟩
          have HB1 := Lib.hid (HB0.out.trans (hb1.mono HB0.out.size))
          have HT1 := Lib.hid (HT0.out.on hb1 HK.out)
          obtain ⟨c0, c1, f0, f1⟩ := HT1.out
          clear HC hb1
          go_wp2
          obtain ⟨s0, s1, -, -⟩ := HT1.out.set (.int .i64 v) (.int .i64 0)
          refine bodyPost_ret (v := .agg #[.int .i64 v, .int .i64 0]) (by simp [results, Tryd.results9, go_sem, s0, s1]) rfl ⟨agg_ii HR.out.1 HR.out.2, ?_⟩
          exact (HB1.out.setCell (p := ⟨w.heap.size, 0, none⟩) (Nat.le_refl _) _).setCell (p := ⟨w.heap.size, 1, none⟩) (Nat.le_refl _) _
        | false =>
          obtain ⟨q1, q2⟩ := HPO.out hfi
          have HR : Hid (0 = pn ∧ 10 = pe) := Lib.hid ⟨q2.symm, q1.symm⟩
          generalize wrap64 (valI s.data.toList) = v at *
          by_cases hl : s.size ≤ 20
          · have hne : ¬ Lib.itoa v = s.data.toList := fun e => by
              have := HX.out.2 ⟨by omega, e⟩
              rw [hfi] at this
              cases this
            obtain ⟨X, hX⟩ : ∃ X : ByteArray, X = ⟨(Lib.itoa v).toArray⟩ := ⟨_, rfl⟩
            have HC : Hid (Calls Tryd.prog 12 #[.int .i64 v] W0 fun e w' => e = .returned (.string X) ∧ Below W0.heap.size W0 w') := by
              rw [hX]; exact HPr
            have t1 : (X.toList == s.toList) = false := by
              rw [beq_eq_false_iff_ne, Lib.toList_data, Lib.toList_data, hX]; exact hne
            have t2 : (s.toList == X.toList) = false := by
              rw [beq_eq_false_iff_ne, Lib.toList_data, Lib.toList_data, hX]; exact fun e => hne e.symm
            clear hL q1 q2 hne hX HPr HX HPI HPO HWF hfi hke hk hp HA
            go_wp2_with fail
            refine HC.out.mono ?_
            rintro e w1 ⟨rfl, hb1⟩
            have HB1 := Lib.hid (HB0.out.trans (hb1.mono HB0.out.size))
            have HT1 := Lib.hid (HT0.out.on hb1 HK.out)
            obtain ⟨c0, c1, f0, f1⟩ := HT1.out
            clear HC hb1
            go_wp2
            obtain ⟨s0, s1, -, -⟩ := HT1.out.set (.int .i64 0) (.int .i64 10)
            refine bodyPost_ret (v := .agg #[.int .i64 0, .int .i64 10]) (by simp [results, Tryd.results9, go_sem, s0, s1]) rfl ⟨agg_ii HR.out.1 HR.out.2, ?_⟩
            exact (HB1.out.setCell (p := ⟨w.heap.size, 0, none⟩) (Nat.le_refl _) _).setCell (p := ⟨w.heap.size, 1, none⟩) (Nat.le_refl _) _
          · clear hL q1 q2 HPr HX HPI HPO HWF hfi hke hk hp HA
            obtain ⟨c0, c1, f0, f1⟩ := HT0.out
            go_wp2
            obtain ⟨s0, s1, -, -⟩ := HT0.out.set (.int .i64 0) (.int .i64 10)
            refine bodyPost_ret (v := .agg #[.int .i64 0, .int .i64 10]) (by simp [results, Tryd.results9, go_sem, s0, s1]) rfl ⟨agg_ii HR.out.1 HR.out.2, ?_⟩
            exact (HB0.out.setCell (p := ⟨w.heap.size, 0, none⟩) (Nat.le_refl _) _).setCell (p := ⟨w.heap.size, 1, none⟩) (Nat.le_refl _) _
end Go.Proofs.YtdianpdjcgcifaaDoor
