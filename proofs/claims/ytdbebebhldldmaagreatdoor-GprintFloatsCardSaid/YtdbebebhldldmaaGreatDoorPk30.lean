/- Texts that the laws of this seat stand on, part 30. -/
import Derived.Test.YtdbebebhldldmaaGreatDoorPk29
import Derived.Test.YtdbebebhldldmaaGreatDoorPk3
/- Contracts: what the closure of Words takes, the loop that cuts with it; the lines and the words of a text, as the program tells them. -/
namespace Go.Proofs.YtdbebebhldldmaaGreatDoor.Wd
open Go.RowKit Go.ChangeShapes WordPure Str
set_option maxHeartbeats 1000000 in
theorem takeWord_yes (N : Nat) (w0 w : World) (xs : List (List UInt8)) (x : ByteArray) (h : Gath N w0 w xs) (hw : wordB x.data.toList = true) (hlen : xs.length ≤ 1000000000) :
    Calls Tryz.prog 138 #[.string x, .pointer (some ⟨N, 0, none⟩)] w fun e w' => e = .returned (.bool true) ∧ Gath N w0 w' (xs ++ [x.data.toList]) := by
  obtain ⟨i0, hi, hz0, hz1, hz2⟩ := info_of infoStr
  have H := Lib.hid h
  have HW := Lib.hid (isWord_any x w)
  rw [hw] at HW
  clear hw h
  go_enter Tryz.func138, Tryz.ntmps138
  go_wp2_with fail
  refine HW.out.mono ?_
  rintro e w1 ⟨rfl, hb⟩
  obtain ⟨h1, v, h2, h3⟩ := H.out.keep hb
  have H1 := Lib.hid h1
  have H2 := Lib.hid h2
  have H3 := Lib.hid h3
  have hlt := h2.lt
  obtain ⟨c0, f0⟩ := h2
  clear h1 h3 hb
  go_wp2_with (first
    | (at_builtin; refine wpList_append_own _ rfl _ _ 113 rfl (N + 1) 9 i0 (.string ⟨#[]⟩) 1 16 Tryz.underlying113 hi hz0 hz1 hz2 rfl (by decide) v xs.length (xs.map encS) rfl (H3.out.alloc _) ⟨w1.heap.size, 0, none⟩ 1 1 [.string x] rfl rfl one_news (by intro u hu; simp at hu; subst hu; rfl) (by unfold maxLen; omega) (by omega) (by simp; omega) ?_))
  intro v' w3 hown hgrow _
  obtain ⟨p, cap, rfl, -, -⟩ := owns_readsL (enc := encS) (l := xs ++ [x.data.toList]) rfl (by rw [List.map_append, List.length_append]; show w3.ownsRow _ _ 1 v' (xs.length + 1) (xs.map encS ++ [encS x.data.toList]); unfold encS; rw [mk_self]; exact hown)
  have HG : Hid (Gath N w0 (w3.setCell ⟨N, 0, none⟩ (.slice p (xs ++ [x.data.toList]).length cap)) (xs ++ [x.data.toList])) := Lib.hid (Gath.step H1.out H2.out H3.out _ (by unfold encS; rw [mk_self]; exact hown) hgrow)
  have hs : (w1.alloc (.cells #[.string x] 9)).heap.size = w1.heap.size + 1 := by simp
  have b1 : Below (N + 1) w1 w3 := ((Below.refl (N + 1) w1).alloc (by omega) _).grown hgrow (by rw [hs]; omega) fun j hj => by have := (H3.out.lt j hj).1; omega
  have c3 := (b1.cell (p := ⟨N, 0, none⟩) (Nat.lt_succ_self N)).trans c0
  have f3 := (b1.frozen (p := ⟨N, 0, none⟩) (Nat.lt_succ_self N)).trans f0
  have lt3 : N < w3.heap.size := World.block_lt_of_cell? w3 _ c3
  clear hown hgrow b1 hs
  go_wp2
  go_ret
  exact ⟨rfl, by have h := HG.out; rw [List.length_append, List.length_singleton] at h; exact h⟩
set_option maxHeartbeats 1000000 in
theorem takeWord_no (N : Nat) (w0 w : World) (xs : List (List UInt8)) (x : ByteArray) (h : Gath N w0 w xs) (hw : wordB x.data.toList = false) :
    Calls Tryz.prog 138 #[.string x, .pointer (some ⟨N, 0, none⟩)] w fun e w' => e = .returned (.bool false) ∧ Gath N w0 w' xs := by
  have H := Lib.hid h
  have HW := Lib.hid (isWord_any x w)
  rw [hw] at HW
  clear hw h
  go_enter Tryz.func138, Tryz.ntmps138
  go_wp2_with fail
  refine HW.out.mono ?_
  rintro e w1 ⟨rfl, hb⟩
  have H1 := Lib.hid (H.out.keep hb)
  clear hb
  go_wp2
  go_ret
  exact ⟨rfl, H1.out⟩
/-- What is left where one piece was no word. -/
def NoWords (l R : List UInt8) : Prop := wordB R = false ∧ ∃ p ∈ splitC 32 l, wordB p = false
theorem no_words {l : List UInt8} {d : List (List UInt8)} {f k : Nat} (h : At 32 l d f k) (hk : k < l.length) (hc : l[k] = 32) (hw : wordB ((l.drop f).take (k - f)) = false) : NoWords l (l.drop f) := by
  have h2 := (h.hit hk hc).2
  refine ⟨word_false (Or.inr (Or.inr fun hn => ?_)), _, by rw [h2]; simp, hw⟩
  have e := mid_hit l f k h.1 hk
  rw [hc] at e
  exact hn 32 (by rw [e]; simp) rfl
/-- At the head of a round of cut, for words. -/
def CutRelW (N : Nat) (w0 : World) (l : List UInt8) (d : List (List UInt8)) (f k : Nat) (w : World) : Prop := At 32 l d f k ∧ Gath N w0 w d ∧ ∀ p ∈ d, wordB p = true
set_option maxHeartbeats 2000000 in
theorem cutWords_any (s : ByteArray) (hs : s.size ≤ 100000000) (N : Nat) (w0 w : World) (h : Gath N w0 w []) :
    Calls Tryz.prog 140 #[.string s, .int .u8 32, .func (.func 138) #[] #[.pointer (some ⟨N, 0, none⟩)]] w
      fun e w' => ∃ (d : List (List UInt8)) (R : ByteArray), e = .returned (.string R) ∧ Gath N w0 w' d ∧ d.length ≤ 100000000 ∧ (∀ p ∈ d, wordB p = true) ∧ (splitC 32 s.data.toList = d ++ [R.data.toList] ∨ NoWords s.data.toList R.data.toList) := by
  have HS : Hid (CutRelW N w0 s.data.toList [] 0 0 w) := Lib.hid ⟨At.start _ _, h, fun p hp => by simp at hp⟩
  have HSZ := Lib.hid (Lib.size_eq s)
  clear h
  go_enter Tryz.func140, Tryz.ntmps140
  go_wp2
  go_step3
  go_wp2
  go_step3
  go_wp2
  go_loopw [7, 11] (fun g i wr => ∃ (d : List (List UInt8)) (f k : Nat), g = .int .i64 f ∧ i = .int .i64 k ∧ f ≤ k ∧ k ≤ s.size ∧ Hid (CutRelW N w0 s.data.toList d f k wr)) (fun _ i _ => s.size - (intOf i).toNat)
  case atStart => exact ⟨[], 0, 0, rfl, rfl, Nat.le_refl _, Nat.zero_le _, HS⟩
  case round =>
    obtain ⟨d, f, k, rfl, rfl, hfk, hks, HF⟩ := hrel
    have HDL : Hid (d.length ≤ 100000000) := Lib.hid (by have := HF.out.1.len; rw [← HSZ.out] at this; omega)
    by_cases hk : k < s.size
    · have hkl : k < s.data.toList.length := by rw [← HSZ.out]; exact hk
      by_cases hc : s[k] = 32
      · have t : ((s[k].toNat : Nat) : Int) = 32 := (byte_eq s[k] 32 (by decide)).2 hc
        cases hw : wordB ((s.data.toList.drop f).take (k - f)) with
        | true =>
          have HH := Lib.hid (HF.out.1.hit hkl hc)
          have HC := Lib.hid (takeWord_yes N w0 wr d (s.extract f k) HF.out.2.1 (by rw [extract_mid]; exact hw) (by have := HDL.out; omega))
          have HA : Hid (∀ p ∈ d ++ [(s.data.toList.drop f).take (k - f)], wordB p = true) := Lib.hid fun p hp => by
            rw [List.mem_append] at hp
            rcases hp with hp | hp
            · exact HF.out.2.2 p hp
            · rw [List.mem_singleton.1 hp]; exact hw
          clear hc hw
          go_wp2_with fail
          refine HC.out.mono ?_
          rintro e w1 ⟨rfl, hg⟩
          rw [extract_mid] at hg
          have HN : Hid (CutRelW N w0 s.data.toList (d ++ [(s.data.toList.drop f).take (k - f)]) (k + 1) (k + 1) w1) := Lib.hid ⟨HH.out.1, hg, HA.out⟩
          clear hg HC
          go_wp2
          go_roundw
          case rel => exact ⟨_, k + 1, k + 1, by go_num, by go_num, Nat.le_refl _, hk, HN⟩
          case measure => simp [intOf]; omega
        | false =>
          have HC := Lib.hid (takeWord_no N w0 wr d (s.extract f k) HF.out.2.1 (by rw [extract_mid]; exact hw))
          have HE : Hid (NoWords s.data.toList (s.extract f s.size).data.toList) := Lib.hid (by rw [extract_rest]; exact no_words HF.out.1 hkl hc hw)
          have HA := Lib.hid HF.out.2.2
          clear hc hw
          go_wp2_with fail
          refine HC.out.mono ?_
          rintro e w1 ⟨rfl, hg⟩
          have HG := Lib.hid hg
          clear hg HC
          go_wp2
          rw [Exit.noGoto_ret]
          go_ret
          exact ⟨d, _, rfl, HG.out, HDL.out, HA.out, Or.inr HE.out⟩
      · have t : ¬ ((s[k].toNat : Nat) : Int) = 32 := fun e => hc ((byte_eq s[k] 32 (by decide)).1 e)
        have HN : Hid (CutRelW N w0 s.data.toList d f (k + 1) wr) := Lib.hid ⟨HF.out.1.skip hkl hc, HF.out.2⟩
        clear hc
        go_wp2
        go_roundw
        case rel => exact ⟨d, f, k + 1, rfl, by go_num, by omega, hk, HN⟩
        case measure => simp [intOf]; omega
    · have HE : Hid (splitC 32 s.data.toList = d ++ [(s.extract f s.size).data.toList]) := Lib.hid (by rw [extract_rest]; exact HF.out.1.done (by rw [← HSZ.out]; exact hk))
      go_wp2
      rw [Exit.noGoto_ret]
      go_ret
      exact ⟨d, _, rfl, HF.out.2.1, HDL.out, HF.out.2.2, Or.inl HE.out⟩
/-- Pieces, or that there are none, as a pair of results. -/
def PairOut (l : List (List UInt8)) (b : Bool) (e : Ending) (w' : World) : Prop :=
  ∃ p cap, e = .returned (.tuple #[.slice p l.length cap, .bool b]) ∧ ReadsL encS w'.heap.size w' p l ∧ l.length ≤ cap
set_option maxHeartbeats 1000000 in
theorem words_any (s : ByteArray) (hs : s.size ≤ 100000000) (w : World) :
    Calls Tryz.prog 123 #[.string s] w fun e w' => PairOut (wordsL s.data.toList) (wordsB s.data.toList) e w' ∧ Below w.heap.size w w' := by
  by_cases h0 : s.data.toList = []
  · have t := empty_yes h0
    have HL : Hid (wordsL s.data.toList = []) := Lib.hid (by rw [h0]; rfl)
    have HBB : Hid (wordsB s.data.toList = true) := Lib.hid (by rw [h0]; rfl)
    clear h0
    go_enter Tryz.func123, Tryz.ntmps123
    go_wp2
    go_ret2
    refine ⟨⟨none, 0, ?_, ?_⟩, Below.refl _ _⟩
    · rw [HL.out, HBB.out]; rfl
    · rw [HL.out]; exact ⟨ReadsL.nil _ _ _ _, Nat.zero_le _⟩
  · have t := empty_no h0
    have HN := Lib.hid h0
    have HC := Lib.hid (cutWords_any s hs w.heap.size w _ (Gath.start w))
    clear h0
    go_enter Tryz.func123, Tryz.ntmps123
    go_wp2_with fail
    refine HC.out.mono ?_
    rintro e w1 ⟨d, R, rfl, hg, hdl, ha, hd⟩
    have HG := Lib.hid hg
    have HA := Lib.hid ha
    have HD := Lib.hid hd
    clear HC hg ha hd
    cases hw : wordB R.data.toList with
    | true =>
      have HT := Lib.hid (takeWord_yes w.heap.size w w1 d R HG.out hw (by omega))
      obtain ⟨hb, hl⟩ : wordsB s.data.toList = true ∧ wordsL s.data.toList = d ++ [R.data.toList] := by
        rcases HD.out with h | h
        · exact words_good HN.out h fun p hp => by
            rw [List.mem_append] at hp
            rcases hp with hp | hp
            · exact HA.out p hp
            · rw [List.mem_singleton.1 hp]; exact hw
        · exact absurd (hw.symm.trans h.1) (by decide)
      have HL := Lib.hid hl
      have HBB := Lib.hid hb
      clear hb hl hw
      go_wp2_with fail
      refine HT.out.mono ?_
      rintro e w2 ⟨rfl, hg⟩
      have HB := Lib.hid hg.1
      obtain ⟨p, cap, ⟨c0, -⟩, hr, hc⟩ := hg.reads
      have HCAP := Lib.hid hc
      have HR := Lib.hid hr
      have lt := World.block_lt_of_cell? w2 _ c0
      clear HT hg hr hc
      go_wp2
      go_ret2
      refine ⟨⟨p, cap, ?_, ?_⟩, HB.out⟩
      · rw [HL.out, HBB.out, List.length_append]; rfl
      · rw [HL.out]; exact ⟨HR.out, HCAP.out⟩
    | false =>
      have HT := Lib.hid (takeWord_no w.heap.size w w1 d R HG.out hw)
      obtain ⟨hb, hl⟩ : wordsB s.data.toList = false ∧ wordsL s.data.toList = [] := by
        rcases HD.out with h | ⟨-, p, hp, hpw⟩
        · exact words_bad HN.out (by rw [h]; simp) hw
        · exact words_bad HN.out hp hpw
      have HL := Lib.hid hl
      have HBB := Lib.hid hb
      clear hb hl hw
      go_wp2_with fail
      refine HT.out.mono ?_
      rintro e w2 ⟨rfl, hg⟩
      have HB := Lib.hid hg.1
      clear HT hg
      go_wp2
      go_ret2
      refine ⟨⟨none, 0, ?_, ?_⟩, HB.out⟩
      · rw [HL.out, HBB.out]; rfl
      · rw [HL.out]; exact ⟨ReadsL.nil _ _ _ _, Nat.zero_le _⟩
end Go.Proofs.YtdbebebhldldmaaGreatDoor.Wd
/- Contracts: who is below a bound; the numbers of a line. -/
namespace Go.Proofs.YtdbebebhldldmaaGreatDoor.Gr
open Go.RowKit Go.ChangeShapes DecPure WordPure GrPure Str
theorem below_any (n m : Int) (w : World) :
    Calls Tryz.prog 95 #[.int .i64 n, .int .i64 m] w fun e w' => e = .returned (.bool (belB n m)) ∧ w = w' := by
  by_cases h1 : 0 ≤ n
  · have HE : Hid (belB n m = decide (n < m)) := Lib.hid (by unfold belB; simp [h1])
    go_enter Tryz.func95, Tryz.ntmps95
    go_wp2
    go_ret
    exact ⟨bool_ret HE.out.symm, rfl⟩
  · have HE : Hid (belB n m = false) := Lib.hid (by unfold belB; simp [h1])
    go_enter Tryz.func95, Tryz.ntmps95
    go_wp2
    go_ret
    exact ⟨bool_ret HE.out.symm, rfl⟩
/-- The row of numbers as it is filled. -/
def rowN (ws : List (List UInt8)) (j : Nat) : List Value := (List.range ws.length).map fun i => .int .i64 (if i < j then zW (ws.getD i []) else 0)
theorem rowN_len (ws : List (List UInt8)) (j : Nat) : (rowN ws j).length = ws.length := by unfold rowN; simp
theorem rowN_get {ws : List (List UInt8)} {j i : Nat} (h : i < (rowN ws j).length) : (rowN ws j)[i] = .int .i64 (if i < j then zW (ws.getD i []) else 0) := by unfold rowN; simp
theorem rowN_zero (ws : List (List UInt8)) : rowN ws 0 = List.replicate ws.length (.int .i64 0) := by
  refine List.ext_getElem (by simp [rowN_len]) fun i h1 h2 => ?_
  unfold rowN
  simp
theorem rowN_set (ws : List (List UInt8)) (j : Nat) (hj : j < ws.length) : (rowN ws j).set j (.int .i64 (zW ws[j])) = rowN ws (j + 1) := by
  refine List.ext_getElem (by simp [rowN_len]) fun i h1 h2 => ?_
  rw [List.getElem_set, rowN_get, rowN_get]
  by_cases hij : j = i
  · subst hij
    rw [if_pos rfl, if_pos (by omega), List.getD_eq_getElem?_getD, List.getElem?_eq_getElem hj]
    rfl
  · rw [if_neg hij]
    by_cases h : i < j
    · rw [if_pos h, if_pos (by omega)]
    · rw [if_neg h, if_neg (by omega)]
theorem rowN_all (ws : List (List UInt8)) : rowN ws ws.length = (ws.map zW).map (encInt .i64) := by
  refine List.ext_getElem (by simp [rowN_len]) fun i h1 h2 => ?_
  have h3 : i < ws.length := by rwa [rowN_len] at h1
  rw [rowN_get, if_pos h3, List.getElem_map, List.getElem_map, List.getD_eq_getElem?_getD, List.getElem?_eq_getElem h3]
  rfl
/-- At the head of a round. -/
def NumRel (G : Nat) (w1 : World) (ws : List (List UInt8)) (j : Nat) (w : World) : Prop :=
  j ≤ ws.length ∧ Below w1.heap.size w1 w ∧ RowIs G w (rowN ws j) ∧ ∀ p ∈ ws.take j, parseE p ≠ 2
theorem NumRel.step {G : Nat} {w1 w w' : World} {ws : List (List UInt8)} {j : Nat} (h : NumRel G w1 ws j w) (hG : w1.heap.size ≤ G) (hj : j < ws.length) (hp : parseE ws[j] ≠ 2) (hb : Below w.heap.size w w') :
    NumRel G w1 ws (j + 1) (w'.setCell ⟨G, j, none⟩ (.int .i64 (zW ws[j]))) := by
  obtain ⟨h1, h2, h3, h4⟩ := h
  have hl := h3.lt (by rw [rowN_len]; omega)
  refine ⟨hj, (h2.trans (hb.mono h2.size)).setCell (p := ⟨G, j, none⟩) hG _, ?_, fun p hp' => ?_⟩
  · rw [← rowN_set ws j hj]
    exact (h3.on hb hl).set (by rw [rowN_len]; exact hj) _
  · rw [take_snoc ws j hj, List.mem_append] at hp'
    rcases hp' with hp' | hp'
    · exact h4 p hp'
    · rw [List.mem_singleton.1 hp']; exact hp
theorem NumRel.cell {G : Nat} {w1 w w' : World} {ws : List (List UInt8)} {j : Nat} (h : NumRel G w1 ws j w) (hj : j < ws.length) (hb : Below w.heap.size w w') :
    ∃ u, w'.cell? ⟨G, j, none⟩ = some u ∧ w'.frozen? ⟨G, j, none⟩ = false := by
  obtain ⟨h1, h2, h3, h4⟩ := h
  have hl := h3.lt (by rw [rowN_len]; omega)
  have := h3.on hb hl j (by rw [rowN_len]; exact hj)
  exact ⟨_, this⟩
def NumsOut (l : List UInt8) (k : Nat) (e : Ending) (w' : World) : Prop :=
  (numsB l k = true ∧ ∃ g, e = .returned (.tuple #[.slice (some ⟨g, 0, none⟩) k k, .bool true]) ∧ RowIs g w' (((wordsL l).map zW).map (encInt .i64))) ∨
  (numsB l k = false ∧ e = .returned (.tuple #[.slice none 0 0, .bool false]))
set_option maxHeartbeats 1000000 in
theorem numbers_any (s : ByteArray) (hs : s.size ≤ 100000000) (k : Nat) (hk0 : 0 < k) (hk : k ≤ 1000) (w : World) :
    Calls Tryz.prog 94 #[.string s, .int .i64 (k : Int)] w fun e w' => NumsOut s.data.toList k e w' ∧ Below w.heap.size w w' := by
  have HW := Lib.hid (Wd.words_any s hs w)
  have HYes : Hid ((wordsL s.data.toList).length = k → (∀ p ∈ wordsL s.data.toList, parseE p ≠ 2) → numsB s.data.toList k = true) := Lib.hid nums_yes
  have HLen : Hid ((wordsL s.data.toList).length ≠ k → numsB s.data.toList k = false) := Lib.hid nums_len
  have HNo : Hid (∀ p, p ∈ wordsL s.data.toList → parseE p = 2 → numsB s.data.toList k = false) := Lib.hid (fun p => nums_no)
  have HL0 : Hid (wordsB s.data.toList = false → wordsL s.data.toList = []) := Lib.hid words_no
  unfold NumsOut
  generalize wordsL s.data.toList = ws at *
  generalize wordsB s.data.toList = b at *
  generalize numsB s.data.toList k = nb at *
  by_cases hl : ws.length = k
  · subst hl
    have t : ((ws.length : Int) != (ws.length : Int)) = false := by simp
    have hbt : b = true := by
      cases b with
      | true => rfl
      | false => rw [HL0.out rfl] at hk0; simp at hk0
    subst hbt
    go_enter Tryz.func94, Tryz.ntmps94
    go_wp2_with fail
    refine HW.out.mono ?_
    rintro e w1 ⟨⟨q, c, rfl, hr, hc⟩, hb1⟩
    rcases hr with hr | ⟨g, off, rfl, hg, hcs⟩
    · rw [hr] at hk0; simp at hk0
    have hmk := makeRow (P := Tryz.prog) (T := 73) (E := 2) (z := .int .i64 0) (c := 8) Tryz.underlying73 (by kernel_rfl) (by decide) rfl ws.length (by omega) w1
    have HB1 := Lib.hid hb1
    have HR : Hid (∀ W j, Below w1.heap.size w1 W → ∀ h : j < ws.length, g < W.heap.size ∧ W.cell? ⟨g, off + j, none⟩ = some (encS ws[j])) := Lib.hid fun W j hW h => ⟨Nat.lt_of_lt_of_le hg hW.size, (hW.cell (p := ⟨g, off + j, none⟩) hg).trans (hcs j h)⟩
    have HS : Hid (NumRel w1.heap.size w1 ws 0 (w1.alloc (.cells (madeCells #[.int .i64 0] ws.length) 2))) := Lib.hid ⟨Nat.zero_le _, (Below.refl _ _).alloc (Nat.le_refl _) _, by rw [rowN_zero]; exact rowIs_made _ _ _ _, fun p hp => by simp at hp⟩
    clear hb1 hcs hg
    go_wp2
    go_loopw [30] (fun i wr => ∃ j : Nat, i = .int .i64 j ∧ Hid (NumRel w1.heap.size w1 ws j wr)) (fun i _ => ws.length - (intOf i).toNat)
    case atStart => exact ⟨0, rfl, HS⟩
    case round =>
      obtain ⟨j, rfl, HJ⟩ := hrel
      have hjk := HJ.out.1
      by_cases hj : j < ws.length
      · have i1 : (j : Int) < (ws.length : Int) := by omega
        obtain ⟨hlt, hcell⟩ := HR.out wr j HJ.out.2.1 hj
        have HP : Hid (Calls Tryz.prog 124 #[encS ws[j]] wr fun e w' => e = .returned (.tuple #[.int .i64 (parseN ws[j]), .int .i64 (parseE ws[j])]) ∧ Below wr.heap.size wr w') := Lib.hid (parse_any ⟨ws[j].toArray⟩ wr)
        have HSt : Hid (∀ w', parseE ws[j] ≠ 2 → Below wr.heap.size wr w' → NumRel w1.heap.size w1 ws (j + 1) (w'.setCell ⟨w1.heap.size, j, none⟩ (.int .i64 (zW ws[j])))) := Lib.hid fun w' h2 hb => HJ.out.step (Nat.le_refl _) hj h2 hb
        have HCe : Hid (∀ w', Below wr.heap.size wr w' → ∃ u, w'.cell? ⟨w1.heap.size, j, none⟩ = some u ∧ w'.frozen? ⟨w1.heap.size, j, none⟩ = false) := Lib.hid fun w' hb => HJ.out.cell hj hb
        have HBr := Lib.hid HJ.out.2.1
        have HN2 := Lib.hid (HNo.out ws[j] (List.getElem_mem hj))
        have H3 := Lib.hid (parse_three ws[j])
        clear HJ
        generalize ws[j] = p at *
        generalize parseE p = pe at *
        generalize parseN p = pn at *
        generalize zW p = pz at *
        unfold encS at hcell HP
        go_wp2_with fail
        refine HP.out.mono ?_
        rintro e w2 ⟨rfl, hb2⟩
        rcases H3.out with ⟨h1, h2⟩ | ⟨h1, h2⟩ | ⟨h1, h2⟩
        · subst h1
          have HB2 := Lib.hid (HB1.out.trans ((HBr.out.trans (hb2.mono HBr.out.size)).mono HB1.out.size))
          clear hb2
          go_wp2
          go_ret2
          exact ⟨Or.inr ⟨HN2.out (by trivial), rfl⟩, HB2.out⟩
        · subst h1
          subst h2
          have HN := Lib.hid (HSt.out w2 (by decide) hb2)
          obtain ⟨u, hc, hfz⟩ := HCe.out w2 hb2
          clear hb2
          go_wp2
          go_roundw
          case rel => exact ⟨j + 1, by go_num, HN⟩
          case measure => simp [intOf]; omega
        · subst h1
          subst h2
          have HN := Lib.hid (HSt.out w2 (by decide) hb2)
          obtain ⟨u, hc, hfz⟩ := HCe.out w2 hb2
          clear hb2
          go_wp2
          go_roundw
          case rel => exact ⟨j + 1, by go_num, HN⟩
          case measure => simp [intOf]; omega
      · obtain rfl : j = ws.length := by omega
        have HRow := Lib.hid HJ.out.2.2.1
        have HAll := Lib.hid HJ.out.2.2.2
        have HB2 := Lib.hid (HB1.out.trans (HJ.out.2.1.mono HB1.out.size))
        clear HJ
        go_wp2
        go_ret2
        refine ⟨Or.inl ⟨HYes.out (by trivial) (by have := HAll.out; rwa [List.take_length] at this), _, rfl, ?_⟩, HB2.out⟩
        have h := HRow.out
        rw [rowN_all] at h
        exact h
  · have HN := Lib.hid (HLen.out hl)
    have t : ((ws.length : Int) != (k : Int)) = true := by
      have : ¬ (ws.length : Int) = (k : Int) := by omega
      simpa using this
    clear hl
    go_enter Tryz.func94, Tryz.ntmps94
    go_wp2_with fail
    refine HW.out.mono ?_
    rintro e w1 ⟨⟨q, c, rfl, hr, hc⟩, hb1⟩
    have HB1 := Lib.hid hb1
    clear hb1 hr
    cases b <;>
    · go_wp2
      go_ret2
      exact ⟨Or.inr ⟨HN.out, rfl⟩, HB1.out⟩
end Go.Proofs.YtdbebebhldldmaaGreatDoor.Gr
