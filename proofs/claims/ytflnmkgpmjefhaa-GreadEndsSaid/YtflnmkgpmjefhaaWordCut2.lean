/- Contracts: what the closure of Words takes, the loop that cuts with it; the lines and the words of a text, as the program tells them. -/
import Derived.Test.YtflnmkgpmjefhaaWordCut
namespace Go.Proofs.Ytflnmkgpmjefhaa.Wd
open Go.RowKit Go.ChangeShapes WordPure Str
set_option maxHeartbeats 1000000 in
theorem takeWord_yes (N : Nat) (w0 w : World) (xs : List (List UInt8)) (x : ByteArray) (h : Gath N w0 w xs) (hw : wordB x.data.toList = true) (hlen : xs.length ≤ 1000000000) :
    Calls Try.prog 45 #[.string x, .pointer (some ⟨N, 0, none⟩)] w fun e w' => e = .returned (.bool true) ∧ Gath N w0 w' (xs ++ [x.data.toList]) := by
  obtain ⟨i0, hi, hz0, hz1, hz2⟩ := info_of infoStr
  have H := Lib.hid h
  have HW := Lib.hid (isWord_any x w)
  rw [hw] at HW
  clear hw h
  go_enter Try.func45, Try.ntmps45
  go_wp2_with fail
  refine HW.out.mono ?_
  rintro e w1 ⟨rfl, hb⟩
  obtain ⟨h1, v, h2, h3⟩ := H.out.keep hb
  have H1 := Lib.hid h1
  have H2 := Lib.hid h2
  have H3 := Lib.hid h3
  have hlt := h2.lt
  obtain ⟨c0, f0⟩ := h2
  clear h1 h3 hb
  go_wp2_with (first
    | (at_builtin; refine wpList_append_own _ rfl _ _ 58 rfl (N + 1) 9 i0 (.string ⟨#[]⟩) 1 16 Try.underlying58 hi hz0 hz1 hz2 rfl (by decide) v xs.length (xs.map encS) rfl (H3.out.alloc _) ⟨w1.heap.size, 0, none⟩ 1 1 [.string x] rfl rfl one_news (by intro u hu; simp at hu; subst hu; rfl) (by unfold maxLen; omega) (by omega) (by simp; omega) ?_))
  intro v' w3 hown hgrow _
  obtain ⟨p, cap, rfl, -, -⟩ := owns_readsL (enc := encS) (l := xs ++ [x.data.toList]) rfl (by rw [List.map_append, List.length_append]; show w3.ownsRow _ _ 1 v' (xs.length + 1) (xs.map encS ++ [encS x.data.toList]); unfold encS; rw [mk_self]; exact hown)
  have HG : Hid (Gath N w0 (w3.setCell ⟨N, 0, none⟩ (.slice p (xs ++ [x.data.toList]).length cap)) (xs ++ [x.data.toList])) := Lib.hid (Gath.step H1.out H2.out H3.out _ (by unfold encS; rw [mk_self]; exact hown) hgrow)
  have hs : (w1.alloc (.cells #[.string x] 9)).heap.size = w1.heap.size + 1 := by simp
  have b1 : Below (N + 1) w1 w3 := ((Below.refl (N + 1) w1).alloc (by omega) _).grown hgrow (by rw [hs]; omega) fun j hj => by have := (H3.out.lt j hj).1; omega
  have c3 := (b1.cell (p := ⟨N, 0, none⟩) (Nat.lt_succ_self N)).trans c0
  have f3 := (b1.frozen (p := ⟨N, 0, none⟩) (Nat.lt_succ_self N)).trans f0
  have lt3 : N < w3.heap.size := World.block_lt_of_cell? w3 _ c3
  clear hown hgrow b1 hs
  go_wp2
  go_ret
  exact ⟨rfl, by have h := HG.out; rw [List.length_append, List.length_singleton] at h; exact h⟩
set_option maxHeartbeats 1000000 in
theorem takeWord_no (N : Nat) (w0 w : World) (xs : List (List UInt8)) (x : ByteArray) (h : Gath N w0 w xs) (hw : wordB x.data.toList = false) :
    Calls Try.prog 45 #[.string x, .pointer (some ⟨N, 0, none⟩)] w fun e w' => e = .returned (.bool false) ∧ Gath N w0 w' xs := by
  have H := Lib.hid h
  have HW := Lib.hid (isWord_any x w)
  rw [hw] at HW
  clear hw h
  go_enter Try.func45, Try.ntmps45
  go_wp2_with fail
  refine HW.out.mono ?_
  rintro e w1 ⟨rfl, hb⟩
  have H1 := Lib.hid (H.out.keep hb)
  clear hb
  go_wp2
  go_ret
  exact ⟨rfl, H1.out⟩
/-- What is left where one piece was no word. -/
def NoWords (l R : List UInt8) : Prop := wordB R = false ∧ ∃ p ∈ splitC 32 l, wordB p = false
theorem no_words {l : List UInt8} {d : List (List UInt8)} {f k : Nat} (h : At 32 l d f k) (hk : k < l.length) (hc : l[k] = 32) (hw : wordB ((l.drop f).take (k - f)) = false) : NoWords l (l.drop f) := by
  have h2 := (h.hit hk hc).2
  refine ⟨word_false (Or.inr (Or.inr fun hn => ?_)), _, by rw [h2]; simp, hw⟩
  have e := mid_hit l f k h.1 hk
  rw [hc] at e
  exact hn 32 (by rw [e]; simp) rfl
/-- At the head of a round of cut, for words. -/
def CutRelW (N : Nat) (w0 : World) (l : List UInt8) (d : List (List UInt8)) (f k : Nat) (w : World) : Prop := At 32 l d f k ∧ Gath N w0 w d ∧ ∀ p ∈ d, wordB p = true
set_option maxHeartbeats 2000000 in
theorem cutWords_any (s : ByteArray) (hs : s.size ≤ 100000000) (N : Nat) (w0 w : World) (h : Gath N w0 w []) :
    Calls Try.prog 47 #[.string s, .int .u8 32, .func (.func 45) #[] #[.pointer (some ⟨N, 0, none⟩)]] w
      fun e w' => ∃ (d : List (List UInt8)) (R : ByteArray), e = .returned (.string R) ∧ Gath N w0 w' d ∧ d.length ≤ 100000000 ∧ (∀ p ∈ d, wordB p = true) ∧ (splitC 32 s.data.toList = d ++ [R.data.toList] ∨ NoWords s.data.toList R.data.toList) := by
  have HS : Hid (CutRelW N w0 s.data.toList [] 0 0 w) := Lib.hid ⟨At.start _ _, h, fun p hp => by simp at hp⟩
  have HSZ := Lib.hid (Lib.size_eq s)
  clear h
  go_enter Try.func47, Try.ntmps47
  go_wp2
  go_step3
  go_wp2
  go_step3
  go_wp2
  go_loopw [7, 11] (fun g i wr => ∃ (d : List (List UInt8)) (f k : Nat), g = .int .i64 f ∧ i = .int .i64 k ∧ f ≤ k ∧ k ≤ s.size ∧ Hid (CutRelW N w0 s.data.toList d f k wr)) (fun _ i _ => s.size - (intOf i).toNat)
  case atStart => exact ⟨[], 0, 0, rfl, rfl, Nat.le_refl _, Nat.zero_le _, HS⟩
  case round =>
    obtain ⟨d, f, k, rfl, rfl, hfk, hks, HF⟩ := hrel
    have HDL : Hid (d.length ≤ 100000000) := Lib.hid (by have := HF.out.1.len; rw [← HSZ.out] at this; omega)
    by_cases hk : k < s.size
    · have hkl : k < s.data.toList.length := by rw [← HSZ.out]; exact hk
      by_cases hc : s[k] = 32
      · have t : ((s[k].toNat : Nat) : Int) = 32 := (byte_eq s[k] 32 (by decide)).2 hc
        cases hw : wordB ((s.data.toList.drop f).take (k - f)) with
        | true =>
          have HH := Lib.hid (HF.out.1.hit hkl hc)
          have HC := Lib.hid (takeWord_yes N w0 wr d (s.extract f k) HF.out.2.1 (by rw [extract_mid]; exact hw) (by have := HDL.out; omega))
          have HA : Hid (∀ p ∈ d ++ [(s.data.toList.drop f).take (k - f)], wordB p = true) := Lib.hid fun p hp => by
            rw [List.mem_append] at hp
            rcases hp with hp | hp
            · exact HF.out.2.2 p hp
            · rw [List.mem_singleton.1 hp]; exact hw
          clear hc hw
          go_wp2_with fail
          refine HC.out.mono ?_
          rintro e w1 ⟨rfl, hg⟩
          rw [extract_mid] at hg
          have HN : Hid (CutRelW N w0 s.data.toList (d ++ [(s.data.toList.drop f).take (k - f)]) (k + 1) (k + 1) w1) := Lib.hid ⟨HH.out.1, hg, HA.out⟩
          clear hg HC
          go_wp2
          go_roundw
          case rel => exact ⟨_, k + 1, k + 1, by go_num, by go_num, Nat.le_refl _, hk, HN⟩
          case measure => simp [intOf]; omega
        | false =>
          have HC := Lib.hid (takeWord_no N w0 wr d (s.extract f k) HF.out.2.1 (by rw [extract_mid]; exact hw))
          have HE : Hid (NoWords s.data.toList (s.extract f s.size).data.toList) := Lib.hid (by rw [extract_rest]; exact no_words HF.out.1 hkl hc hw)
          have HA := Lib.hid HF.out.2.2
          clear hc hw
          go_wp2_with fail
          refine HC.out.mono ?_
          rintro e w1 ⟨rfl, hg⟩
          have HG := Lib.hid hg
          clear hg HC
          go_wp2
          rw [Exit.noGoto_ret]
          go_ret
          exact ⟨d, _, rfl, HG.out, HDL.out, HA.out, Or.inr HE.out⟩
      · have t : ¬ ((s[k].toNat : Nat) : Int) = 32 := fun e => hc ((byte_eq s[k] 32 (by decide)).1 e)
        have HN : Hid (CutRelW N w0 s.data.toList d f (k + 1) wr) := Lib.hid ⟨HF.out.1.skip hkl hc, HF.out.2⟩
        clear hc
        go_wp2
        go_roundw
        case rel => exact ⟨d, f, k + 1, rfl, by go_num, by omega, hk, HN⟩
        case measure => simp [intOf]; omega
    · have HE : Hid (splitC 32 s.data.toList = d ++ [(s.extract f s.size).data.toList]) := Lib.hid (by rw [extract_rest]; exact HF.out.1.done (by rw [← HSZ.out]; exact hk))
      go_wp2
      rw [Exit.noGoto_ret]
      go_ret
      exact ⟨d, _, rfl, HF.out.2.1, HDL.out, HF.out.2.2, Or.inl HE.out⟩
/-- Pieces, or that there are none, as a pair of results. -/
def PairOut (l : List (List UInt8)) (b : Bool) (e : Ending) (w' : World) : Prop :=
  ∃ p cap, e = .returned (.tuple #[.slice p l.length cap, .bool b]) ∧ ReadsL encS w'.heap.size w' p l ∧ l.length ≤ cap
set_option maxHeartbeats 1000000 in
theorem words_any (s : ByteArray) (hs : s.size ≤ 100000000) (w : World) :
    Calls Try.prog 31 #[.string s] w fun e w' => PairOut (wordsL s.data.toList) (wordsB s.data.toList) e w' ∧ Below w.heap.size w w' := by
  by_cases h0 : s.data.toList = []
  · have t := empty_yes h0
    have HL : Hid (wordsL s.data.toList = []) := Lib.hid (by rw [h0]; rfl)
    have HBB : Hid (wordsB s.data.toList = true) := Lib.hid (by rw [h0]; rfl)
    clear h0
    go_enter Try.func31, Try.ntmps31
    go_wp2
    go_ret2
    refine ⟨⟨none, 0, ?_, ?_⟩, Below.refl _ _⟩
    · rw [HL.out, HBB.out]; rfl
    · rw [HL.out]; exact ⟨ReadsL.nil _ _ _ _, Nat.zero_le _⟩
  · have t := empty_no h0
    have HN := Lib.hid h0
    have HC := Lib.hid (cutWords_any s hs w.heap.size w _ (Gath.start w))
    clear h0
    go_enter Try.func31, Try.ntmps31
    go_wp2_with fail
    refine HC.out.mono ?_
    rintro e w1 ⟨d, R, rfl, hg, hdl, ha, hd⟩
    have HG := Lib.hid hg
    have HA := Lib.hid ha
    have HD := Lib.hid hd
    clear HC hg ha hd
    cases hw : wordB R.data.toList with
    | true =>
      have HT := Lib.hid (takeWord_yes w.heap.size w w1 d R HG.out hw (by omega))
      obtain ⟨hb, hl⟩ : wordsB s.data.toList = true ∧ wordsL s.data.toList = d ++ [R.data.toList] := by
        rcases HD.out with h | h
        · exact words_good HN.out h fun p hp => by
            rw [List.mem_append] at hp
            rcases hp with hp | hp
            · exact HA.out p hp
            · rw [List.mem_singleton.1 hp]; exact hw
        · exact absurd (hw.symm.trans h.1) (by decide)
      have HL := Lib.hid hl
      have HBB := Lib.hid hb
      clear hb hl hw
      go_wp2_with fail
      refine HT.out.mono ?_
      rintro e w2 ⟨rfl, hg⟩
      have HB := Lib.hid hg.1
      obtain ⟨p, cap, ⟨c0, -⟩, hr, hc⟩ := hg.reads
      have HCAP := Lib.hid hc
      have HR := Lib.hid hr
      have lt := World.block_lt_of_cell? w2 _ c0
      clear HT hg hr hc
      go_wp2
      go_ret2
      refine ⟨⟨p, cap, ?_, ?_⟩, HB.out⟩
      · rw [HL.out, HBB.out, List.length_append]; rfl
      · rw [HL.out]; exact ⟨HR.out, HCAP.out⟩
    | false =>
      have HT := Lib.hid (takeWord_no w.heap.size w w1 d R HG.out hw)
      obtain ⟨hb, hl⟩ : wordsB s.data.toList = false ∧ wordsL s.data.toList = [] := by
        rcases HD.out with h | ⟨-, p, hp, hpw⟩
        · exact words_bad HN.out (by rw [h]; simp) hw
        · exact words_bad HN.out hp hpw
      have HL := Lib.hid hl
      have HBB := Lib.hid hb
      clear hb hl hw
      go_wp2_with fail
      refine HT.out.mono ?_
      rintro e w2 ⟨rfl, hg⟩
      have HB := Lib.hid hg.1
      clear HT hg
      go_wp2
      go_ret2
      refine ⟨⟨none, 0, ?_, ?_⟩, HB.out⟩
      · rw [HL.out, HBB.out]; rfl
      · rw [HL.out]; exact ⟨ReadsL.nil _ _ _ _, Nat.zero_le _⟩
end Go.Proofs.Ytflnmkgpmjefhaa.Wd
