/- Texts that the laws of this seat stand on, part 25. -/
import Derived.Test.YtflnmkgpmjefhaaPk24
import Derived.Test.YtflnmkgpmjefhaaPk7
import Derived.Test.YtflnmkgpmjefhaaPk10
/- Contracts for the document's own answers on what a text says: is it a number's, and which. Beside no function of dec. -/
namespace Go.Proofs.Ytflnmkgpmjefhaa.R6
open Go.RowKit Go.ChangeShapes DecPure
theorem tail_bytes {s : ByteArray} (h : negB s.data.toList = true) : (s.extract 1 s.size).data.toList = tailD s.data.toList ∧ 0 < s.size ∧ s.data.toList.length = (tailD s.data.toList).length + 1 := by
  have h1 := neg_true h
  have h2 : s.data.toList.length = (tailD s.data.toList).length + 1 := by
    have := congrArg List.length h1
    simpa using this
  refine ⟨?_, by have : s.size = s.data.toList.length := Lib.size_eq s; omega, h2⟩
  rw [Lib.extract_eq]
  show List.take (s.size - 1) (List.drop 1 s.data.toList) = _
  have h3 : List.drop 1 s.data.toList = tailD s.data.toList := by
    conv => lhs; rw [h1]
    rfl
  rw [h3, List.take_of_length_le]
  have : s.size = s.data.toList.length := Lib.size_eq s
  omega
theorem neg_at {s : ByteArray} (h0 : 0 < s.size) : negB s.data.toList = (s[0] == 45) := by
  have hh : s.data.toList.head? = some s[0] := by
    rw [List.head?_eq_getElem?, List.getElem?_eq_getElem (by simpa using h0)]; rfl
  unfold negB
  rw [hh]
  by_cases hx : s[0] = 45
  · rw [hx]; rfl
  · rw [beq_eq_false_iff_ne.2 hx, beq_eq_false_iff_ne.2 (fun e => hx (Option.some.inj e))]
theorem neg_size {s : ByteArray} (h0 : ¬ 0 < s.size) : negB s.data.toList = false := by
  have : s.data.toList = [] := List.length_eq_zero_iff.1 (by have := Lib.size_eq s; omega)
  rw [this]; rfl
theorem byte_is (c k : UInt8) : (((c.toNat : Nat) : Int) == ((k.toNat : Nat) : Int)) = (c == k) := by
  by_cases h : c = k
  · subst h; simp
  · rw [beq_eq_false_iff_ne.2 h, beq_eq_false_iff_ne]
    intro e
    exact h (UInt8.toNat.inj (by omega))
theorem size_void {D : ByteArray} (e : D.toList = []) : ¬ 0 < D.size := by
  rw [Lib.size_eq, ← Lib.toList_data, e]; simp
set_option maxHeartbeats 2000000 in
theorem refForm_any (s : ByteArray) (hs : s.size ≤ 9223372036854775807) (w : World) :
    Calls Try.prog 50 #[.string s] w fun e w' => e = .returned (.bool (formB s.data.toList)) ∧ w = w' := by
  have HF : Hid (formB s.data.toList = (plainB (tailD s.data.toList) && !(negB s.data.toList && tailD s.data.toList == [48]))) := Lib.hid rfl
  by_cases h0 : 0 < s.size
  · have hn := neg_at h0
    have hb := byte_is s[0] 45
    cases hng : negB s.data.toList with
    | true =>
      obtain ⟨t1, -, t3⟩ := tail_bytes hng
      have hsz : (s.extract 1 s.size).size ≤ 9223372036854775807 := by
        have e1 := Lib.size_eq (s.extract 1 s.size)
        have e2 := Lib.size_eq s
        rw [t1] at e1
        omega
      have hb2 : (((s[0].toNat : Nat) : Int) == 45) = true := by rw [← hng, hn, ← hb]; rfl
      rw [hng, ← t1] at HF
      have HE : Hid (∀ D : ByteArray, D = s.extract 1 s.size → formB s.data.toList = (plainB D.data.toList && !(D.toList == [48]))) := Lib.hid fun D hD => by rw [hD, HF.out, Lib.toList_data]; rfl
      clear hn hb hng t1 t3 HF
      generalize formB s.data.toList = fm at *
      have HX := Lib.hid (HE.out _ rfl)
      clear HE
      cases h48 : ((s.extract 1 s.size).toList == [48]) with
      | true =>
        have HFm : Hid (fm = false) := Lib.hid (by rw [HX.out, h48]; simp)
        clear HX
        go_enter Try.func50, Try.ntmps50
        go_wp2
        go_ret
        exact ⟨bool_ret HFm.out.symm, rfl⟩
      | false =>
        have HFm : Hid (fm = plainB (s.extract 1 s.size).data.toList) := Lib.hid (by rw [HX.out, h48]; simp)
        clear HX
        go_enter Try.func50, Try.ntmps50
        go_wp2
        clear h48
        generalize s.extract 1 s.size = D at *
        go_loop [3] (fun i => ∃ k : Nat, i = .int .i64 k ∧ Hid (DigTo D k)) (fun i => D.size - (intOf i).toNat)
        case atStart => exact ⟨0, rfl, Lib.hid ⟨Nat.zero_le _, fun c hc => by simp at hc⟩⟩
        case round =>
          obtain ⟨k, rfl, HD⟩ := hrel
          by_cases hp : k < D.size
          · cases hd : dig D[k] with
            | true =>
              obtain ⟨h1, h2⟩ := (dig_iff _).1 hd
              have HN := Lib.hid (digTo_next HD.out hp hd)
              have g1 : (48 : Int) ≤ (D[k].toNat : Int) := by omega
              have g2 : (D[k].toNat : Int) ≤ 57 := by omega
              clear hd h1 h2
              go_wp2
              go_round
              case rel => exact ⟨k + 1, by go_num, HN⟩
              case measure => simp [intOf]; omega
            | false =>
              have HX := Lib.hid (plain_no hp hd)
              rcases (dig_not _).1 hd with hr | hr
              · have g : (D[k].toNat : Int) < 48 := by omega
                clear hd hr
                go_wp2
                go_ret
                exact ⟨bool_ret (by rw [HFm.out, HX.out]), rfl⟩
              · have g : (57 : Int) < (D[k].toNat : Int) := by omega
                clear hd hr
                go_wp2
                go_ret
                exact ⟨bool_ret (by rw [HFm.out, HX.out]), rfl⟩
          · have hk : k = D.size := Nat.le_antisymm HD.out.1 (Nat.le_of_not_lt hp)
            have HA := Lib.hid (digTo_all hk HD.out)
            clear hk
            by_cases e3 : 0 < D.size
            · cases e1 : (D.toList == [48]) with
              | true =>
                go_wp2
                go_ret
                exact ⟨bool_ret (by rw [HFm.out, plain_lone (by simpa using e1)]), rfl⟩
              | false =>
                have HB : Hid (plainB D.data.toList = (((D[0].toNat : Nat) : Int) != 48)) := Lib.hid (by rw [byte_ne]; exact plain_head HA.out (by simpa using e1) (fun e => size_void e e3) e3)
                go_wp2
                go_ret
                exact ⟨bool_ret (by rw [HFm.out, HB.out]), rfl⟩
            · have e2 : D.toList = [] := by rw [Lib.toList_data]; exact List.length_eq_zero_iff.1 (by have := Lib.size_eq D; omega)
              have HB := Lib.hid (plain_void e2)
              clear e2
              go_wp2
              go_ret
              exact ⟨bool_ret (by rw [HFm.out, HB.out]), rfl⟩
    | false =>
      have hb2 : (((s[0].toNat : Nat) : Int) == 45) = false := by rw [← hng, hn, ← hb]; rfl
      have ht := neg_false hng
      rw [hng, ht] at HF
      have HFm : Hid (formB s.data.toList = plainB s.data.toList) := Lib.hid (by rw [HF.out]; simp)
      clear hn hb hng ht HF
      generalize formB s.data.toList = fm at *
      go_enter Try.func50, Try.ntmps50
      go_wp2
      go_loop [3] (fun i => ∃ k : Nat, i = .int .i64 k ∧ Hid (DigTo s k)) (fun i => s.size - (intOf i).toNat)
      case atStart => exact ⟨0, rfl, Lib.hid ⟨Nat.zero_le _, fun c hc => by simp at hc⟩⟩
      case round =>
        obtain ⟨k, rfl, HD⟩ := hrel
        by_cases hp : k < s.size
        · cases hd : dig s[k] with
          | true =>
            obtain ⟨h1, h2⟩ := (dig_iff _).1 hd
            have HN := Lib.hid (digTo_next HD.out hp hd)
            have g1 : (48 : Int) ≤ (s[k].toNat : Int) := by omega
            have g2 : (s[k].toNat : Int) ≤ 57 := by omega
            clear hd h1 h2
            go_wp2
            go_round
            case rel => exact ⟨k + 1, by go_num, HN⟩
            case measure => simp [intOf]; omega
          | false =>
            have HX := Lib.hid (plain_no hp hd)
            rcases (dig_not _).1 hd with hr | hr
            · have g : (s[k].toNat : Int) < 48 := by omega
              clear hd hr
              go_wp2
              go_ret
              exact ⟨bool_ret (by rw [HFm.out, HX.out]), rfl⟩
            · have g : (57 : Int) < (s[k].toNat : Int) := by omega
              clear hd hr
              go_wp2
              go_ret
              exact ⟨bool_ret (by rw [HFm.out, HX.out]), rfl⟩
        · have hk : k = s.size := Nat.le_antisymm HD.out.1 (Nat.le_of_not_lt hp)
          have HA := Lib.hid (digTo_all hk HD.out)
          clear hk
          by_cases e3 : 0 < s.size
          · cases e1 : (s.toList == [48]) with
            | true =>
              go_wp2
              go_ret
              exact ⟨bool_ret (by rw [HFm.out, plain_lone (by simpa using e1)]), rfl⟩
            | false =>
              have HB : Hid (plainB s.data.toList = (((s[0].toNat : Nat) : Int) != 48)) := Lib.hid (by rw [byte_ne]; exact plain_head HA.out (by simpa using e1) (fun e => size_void e e3) e3)
              go_wp2
              go_ret
              exact ⟨bool_ret (by rw [HFm.out, HB.out]), rfl⟩
          · exact absurd h0 e3
  · have hng := neg_size h0
    have ht := neg_false hng
    rw [hng, ht] at HF
    have HFm : Hid (formB s.data.toList = plainB s.data.toList) := Lib.hid (by rw [HF.out]; simp)
    clear hng ht HF
    generalize formB s.data.toList = fm at *
    go_enter Try.func50, Try.ntmps50
    go_wp2
    go_loop [3] (fun i => ∃ k : Nat, i = .int .i64 k ∧ Hid (DigTo s k)) (fun i => s.size - (intOf i).toNat)
    case atStart => exact ⟨0, rfl, Lib.hid ⟨Nat.zero_le _, fun c hc => by simp at hc⟩⟩
    case round =>
      obtain ⟨k, rfl, HD⟩ := hrel
      by_cases hp : k < s.size
      · exact absurd (by omega) h0
      · have e2 : s.toList = [] := by rw [Lib.toList_data]; exact List.length_eq_zero_iff.1 (by have := Lib.size_eq s; omega)
        have HB := Lib.hid (plain_void e2)
        clear e2
        go_wp2
        go_ret
        exact ⟨bool_ret (by rw [HFm.out, HB.out]), rfl⟩
end Go.Proofs.Ytflnmkgpmjefhaa.R6
/- A contract for the document's own answer on a text's number. Beside no function of dec. -/
namespace Go.Proofs.Ytflnmkgpmjefhaa.R6
open Go.RowKit Go.ChangeShapes DecPure
/-- One byte more, as the document reckons. -/
def stepV (low : Bool) (n : Int) (c : UInt8) : Int := if c = 45 then n else wrap64 (wrap64 (10 * n) + (if low then -(dv c : Int) else (dv c : Int)))
def accV (low : Bool) (l : List UInt8) : Int := l.foldl (stepV low) 0
theorem acc_snoc (low : Bool) (l : List UInt8) (c : UInt8) : accV low (l ++ [c]) = stepV low (accV low l) c := by unfold accV; rw [List.foldl_append]; rfl
theorem wrap_add (x d : Int) : wrap64 (wrap64 (10 * wrap64 x) + d) = wrap64 (10 * x + d) := by unfold wrap64; omega
theorem acc_dig (low : Bool) (l : List UInt8) (h : ∀ c ∈ l, dig c = true) : accV low l = wrap64 (if low then -(numV l : Int) else (numV l : Int)) := by
  induction l using snoc_ind with
  | h0 => cases low <;> simp [accV, numV, wrap64]
  | hs l c ih =>
    have hc := h c (by simp)
    have hne : c ≠ 45 := by intro e; rw [e] at hc; exact absurd hc (by decide)
    rw [acc_snoc, ih (fun a ha => h a (by simp [ha])), numV_snoc]
    unfold stepV
    rw [if_neg hne]
    cases low with
    | true => simp only [if_true]; rw [wrap_add]; congr 1; omega
    | false => simp only [Bool.false_eq_true, if_false]; rw [wrap_add]; congr 1
/-- Over all of a number's text: its number, as there is room. -/
theorem acc_form {l : List UInt8} (h : formB l = true) : accV (negB l) l = wrap64 (valI l) := by
  have hd := plain_dig ((form_iff l).1 h).1
  have ha := acc_dig (negB l) (tailD l) hd
  have hv : valI l = if negB l then -(numV (tailD l) : Int) else (numV (tailD l) : Int) := rfl
  rw [hv, ← ha]
  cases hn : negB l with
  | true =>
    conv => lhs; rw [neg_true hn]
    show (tailD l).foldl (stepV true) (stepV true 0 45) = _
    rw [show stepV true 0 45 = 0 from if_pos rfl]; rfl
  | false => rw [neg_false hn]
theorem wrap_rng (x : Int) : -9223372036854775808 ≤ wrap64 x ∧ wrap64 x ≤ 9223372036854775807 := by unfold wrap64; omega
theorem wrap_fits {x : Int} (h : fitsI x = true) : wrap64 x = x := by
  have := (fits_iff x).1 h
  unfold wrap64; omega
theorem form_pos {s : ByteArray} (h : formB s.data.toList = true) : 0 < s.size := by
  rcases Nat.eq_zero_or_pos s.size with h0 | h0
  · have e : s.data.toList = [] := List.length_eq_zero_iff.1 (by have := Lib.size_eq s; omega)
    rw [e] at h
    exact absurd h (by decide)
  · exact h0
/-- A number's text holds digits, and - ahead of them at most. -/
theorem form_byte {s : ByteArray} (h : formB s.data.toList = true) (k : Nat) (hk : k < s.size) : s[k] = 45 ∨ (48 ≤ s[k].toNat ∧ s[k].toNat ≤ 57) := by
  have hm := mem_at s k hk
  have hd := plain_dig ((form_iff _).1 h).1
  cases hn : negB s.data.toList with
  | true =>
    rw [neg_true hn, List.mem_cons] at hm
    rcases hm with hm | hm
    · exact Or.inl hm
    · exact Or.inr ((dig_iff _).1 (hd _ hm))
  | false =>
    rw [neg_false hn] at hd
    exact Or.inr ((dig_iff _).1 (hd _ hm))
theorem agg_ii {k l : IntKind} {a b c d : Int} (h1 : a = b) (h2 : c = d) : Ending.returned (.agg #[.int k a, .int l c]) = .returned (.agg #[.int k b, .int l d]) := by rw [h1, h2]
set_option maxHeartbeats 2000000 in
theorem refParse_any (s : ByteArray) (hs : s.size ≤ 1000000) (w : World) :
    Calls Try.prog 34 #[.string s] w fun e w' => e = .returned (.agg #[.int .i64 (parseN s.data.toList), .int .i64 (parseE s.data.toList)]) ∧ Below w.heap.size w w' := by
  have hC := Lib.hid (refForm_any s (by omega) (w.alloc (.cells #[.int .i64 0, .int .i64 0] 64)))
  have hW0 : Below w.heap.size w (w.alloc (.cells #[.int .i64 0, .int .i64 0] 64)) := (Below.refl _ _).alloc (Nat.le_refl _) _
  have HT0 := Lib.hid (TwoAt.new w (.int .i64 0) (.int .i64 0) 64)
  have HB0 := Lib.hid hW0
  clear hW0
  cases hfm : formB s.data.toList with
  | false =>
    obtain ⟨p1, p2⟩ := parse_form hfm
    rw [hfm] at hC
    rw [p1, p2]
    clear hfm p1 p2
    go_enter Try.func34, Try.ntmps34
    go_wp2_with fail
    refine hC.out.mono ?_
    rintro e w' ⟨rfl, rfl⟩
    clear hC
    go_wp2
    exact bodyPost_ret (v := .agg #[.int .i64 0, .int .i64 2]) (by simp [results, Try.results34, go_sem]) rfl ⟨rfl, (Below.refl _ _).alloc (Nat.le_refl _) _⟩
  | true =>
    have hp0 := form_pos hfm
    have hn := neg_at hp0
    have hb := byte_is s[0] 45
    have HA := Lib.hid (acc_form hfm)
    have HY := Lib.hid (form_byte hfm)
    have HX := Lib.hid (fits_printed hfm (wrap64 (valI s.data.toList)) (wrap_rng _) wrap_fits)
    have HPI := Lib.hid (fun h => parse_fits hfm h)
    have HPO := Lib.hid (fun h => parse_wide hfm h)
    have HWF := Lib.hid (fun h : fitsI (valI s.data.toList) = true => wrap_fits h)
    rw [hfm] at hC
    have h45 : (((s[0].toNat : Nat) : Int) == 45) = negB s.data.toList := by rw [hn, ← hb]; rfl
    clear hn hb hfm
    have HK : Hid (w.heap.size < (w.alloc (.cells #[.int .i64 0, .int .i64 0] 64)).heap.size) := Lib.hid (by simp)
    generalize negB s.data.toList = low at *
    generalize parseN s.data.toList = pn at *
    generalize parseE s.data.toList = pe at *
    generalize W0e : w.alloc (.cells #[.int .i64 0, .int .i64 0] 64) = W0 at *
    go_enter Try.func34, Try.ntmps34
    go_wp2_with fail
    refine hC.out.mono ?_
    rintro e w' ⟨rfl, rfl⟩
    clear hC
    go_wp2
    go_loop [3, 5] (fun n i => ∃ k : Nat, i = .int .i64 k ∧ k ≤ s.size ∧ n = .int .i64 (accV low (s.data.toList.take k))) (fun _ i => s.size - (intOf i).toNat)
    case atStart => exact ⟨0, rfl, Nat.zero_le _, rfl⟩
    case round =>
      obtain ⟨k, rfl, hk, rfl⟩ := hrel
      by_cases hp : k < s.size
      · have HN : Hid (accV low (s.data.toList.take (k + 1)) = stepV low (accV low (s.data.toList.take k)) s[k]) := Lib.hid (by rw [take_next s k hp, acc_snoc])
        have hy := HY.out k hp
        generalize accV low (s.data.toList.take k) = a at *
        by_cases h45k : s[k] = 45
        · have HN' : Hid (accV low (s.data.toList.take (k + 1)) = a) := Lib.hid (by rw [HN.out]; exact if_pos h45k)
          have t : (((s[k].toNat : Nat) : Int) != 45) = false := by rw [h45k]; rfl
          clear h45k hy
          go_wp2
          go_round
          case rel => exact ⟨k + 1, by go_num, hp, by rw [HN'.out]⟩
          case measure => simp [intOf]; omega
        · have HN' : Hid (accV low (s.data.toList.take (k + 1)) = wrap64 (wrap64 (10 * a) + (if low then -(dv s[k] : Int) else (dv s[k] : Int)))) := Lib.hid (by rw [HN.out]; exact if_neg h45k)
          obtain ⟨g1, g2⟩ : 48 ≤ s[k].toNat ∧ s[k].toNat ≤ 57 := by rcases hy with hy | hy; exact absurd hy h45k; exact hy
          have t : (((s[k].toNat : Nat) : Int) != 45) = true := by rw [bne_iff_ne]; omega
          have g3 : (48 : Int) ≤ (s[k].toNat : Int) := by omega
          have g4 : (s[k].toNat : Int) ≤ 57 := by omega
          have HD : Hid ((dv s[k] : Int) = (s[k].toNat : Int) - 48) := Lib.hid (by unfold dv; omega)
          clear h45k hy
          cases low with
          | true =>
            go_wp2
            go_round
            case rel => exact ⟨k + 1, by go_num, hp, by rw [HN'.out, HD.out]; rfl⟩
            case measure => simp [intOf]; omega
          | false =>
            go_wp2
            go_round
            case rel => exact ⟨k + 1, by go_num, hp, by rw [HN'.out, HD.out]; rfl⟩
            case measure => simp [intOf]; omega
      · have hke : k = s.size := by omega
        rw [hke, List.take_of_length_le (by simp), HA.out]
        have hwr := wrap_rng (valI s.data.toList)
        have hL := Lib.size_eq s
        have HPr := Lib.hid (refPrint_any (wrap64 (valI s.data.toList)) hwr.1 hwr.2 W0)
        cases hfi : fitsI (valI s.data.toList) with
        | true =>
          obtain ⟨q1, q2⟩ := HPI.out hfi
          obtain ⟨q3, q4⟩ := HX.out.1 hfi
          rw [HWF.out hfi] at *
          have HR : Hid (valI s.data.toList = pn ∧ 0 = pe) := Lib.hid ⟨q2.symm, q1.symm⟩
          have HC : Hid (Calls Try.prog 51 #[.int .i64 (valI s.data.toList)] W0 fun e w' => e = .returned (.string s) ∧ Below W0.heap.size W0 w') := by
            have h := HPr.out
            rw [q4] at h
            exact Lib.hid h
          have hl : s.size ≤ 20 := by omega
          clear hL q1 q2 q3 q4 HPr HX HPI HPO HWF hfi hke hk hp HA
          generalize valI s.data.toList = v at *
          go_wp2_with fail
          refine HC.out.mono ?_
          rintro e w1 ⟨rfl, hb1⟩
          have HB1 := Lib.hid (HB0.out.trans (hb1.mono HB0.out.size))
          have HT1 := Lib.hid (HT0.out.on hb1 HK.out)
          obtain ⟨c0, c1, f0, f1⟩ := HT1.out
          clear HC hb1
          go_wp2
          obtain ⟨s0, s1, -, -⟩ := HT1.out.set (.int .i64 v) (.int .i64 0)
          refine bodyPost_ret (v := .agg #[.int .i64 v, .int .i64 0]) (by simp [results, Try.results34, go_sem, s0, s1]) rfl ⟨agg_ii HR.out.1 HR.out.2, ?_⟩
          exact (HB1.out.setCell (p := ⟨w.heap.size, 0, none⟩) (Nat.le_refl _) _).setCell (p := ⟨w.heap.size, 1, none⟩) (Nat.le_refl _) _
        | false =>
          obtain ⟨q1, q2⟩ := HPO.out hfi
          have HR : Hid (0 = pn ∧ 10 = pe) := Lib.hid ⟨q2.symm, q1.symm⟩
          generalize wrap64 (valI s.data.toList) = v at *
          by_cases hl : s.size ≤ 20
          · have hne : ¬ Lib.itoa v = s.data.toList := fun e => by
              have := HX.out.2 ⟨by omega, e⟩
              rw [hfi] at this
              cases this
            obtain ⟨X, hX⟩ : ∃ X : ByteArray, X = ⟨(Lib.itoa v).toArray⟩ := ⟨_, rfl⟩
            have HC : Hid (Calls Try.prog 51 #[.int .i64 v] W0 fun e w' => e = .returned (.string X) ∧ Below W0.heap.size W0 w') := by
              rw [hX]; exact HPr
            have t1 : (X.toList == s.toList) = false := by
              rw [beq_eq_false_iff_ne, Lib.toList_data, Lib.toList_data, hX]; exact hne
            have t2 : (s.toList == X.toList) = false := by
              rw [beq_eq_false_iff_ne, Lib.toList_data, Lib.toList_data, hX]; exact fun e => hne e.symm
            clear hL q1 q2 hne hX HPr HX HPI HPO HWF hfi hke hk hp HA
            go_wp2_with fail
            refine HC.out.mono ?_
            rintro e w1 ⟨rfl, hb1⟩
            have HB1 := Lib.hid (HB0.out.trans (hb1.mono HB0.out.size))
            have HT1 := Lib.hid (HT0.out.on hb1 HK.out)
            obtain ⟨c0, c1, f0, f1⟩ := HT1.out
            clear HC hb1
            go_wp2
            obtain ⟨s0, s1, -, -⟩ := HT1.out.set (.int .i64 0) (.int .i64 10)
            refine bodyPost_ret (v := .agg #[.int .i64 0, .int .i64 10]) (by simp [results, Try.results34, go_sem, s0, s1]) rfl ⟨agg_ii HR.out.1 HR.out.2, ?_⟩
            exact (HB1.out.setCell (p := ⟨w.heap.size, 0, none⟩) (Nat.le_refl _) _).setCell (p := ⟨w.heap.size, 1, none⟩) (Nat.le_refl _) _
          · clear hL q1 q2 HPr HX HPI HPO HWF hfi hke hk hp HA
            obtain ⟨c0, c1, f0, f1⟩ := HT0.out
            go_wp2
            obtain ⟨s0, s1, -, -⟩ := HT0.out.set (.int .i64 0) (.int .i64 10)
            refine bodyPost_ret (v := .agg #[.int .i64 0, .int .i64 10]) (by simp [results, Try.results34, go_sem, s0, s1]) rfl ⟨agg_ii HR.out.1 HR.out.2, ?_⟩
            exact (HB0.out.setCell (p := ⟨w.heap.size, 0, none⟩) (Nat.le_refl _) _).setCell (p := ⟨w.heap.size, 1, none⟩) (Nat.le_refl _) _
end Go.Proofs.Ytflnmkgpmjefhaa.R6
