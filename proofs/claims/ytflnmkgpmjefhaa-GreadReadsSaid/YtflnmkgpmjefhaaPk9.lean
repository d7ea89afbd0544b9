/- Texts that the laws of this seat stand on, part 9. -/
import Derived.Test.YtflnmkgpmjefhaaPk0
import Derived.Test.YtflnmkgpmjefhaaPk8
import Derived.Test.YtflnmkgpmjefhaaPk1
import Derived.Deep.RegionWith
import Derived.Deep.RegionHeld3
import Derived.Deep.QuietTactic
import Derived.BigQuiet
import Derived.WalkMore
/- Contracts of word's small functions: whether a text is a word, whether all its bytes are seen, the place of a key. -/
namespace Go.Proofs.Ytflnmkgpmjefhaa.Wd
open Go.RowKit Go.ChangeShapes WordPure Str
theorem idx_cases (l : List UInt8) (c : UInt8) : (Lib.indexByte l c < 0 ∧ NoC c l) ∨ (0 ≤ Lib.indexByte l c ∧ ¬ NoC c l) := by
  induction l with
  | nil => exact Or.inl ⟨by unfold Lib.indexByte; decide, fun c hc => by simp at hc⟩
  | cons b r ih =>
    by_cases hb : b = c
    · refine Or.inr ⟨?_, fun h => h b (by simp) hb⟩
      unfold Lib.indexByte; rw [if_pos (by simpa using hb)]; decide
    · have hbe : (b == c) = false := beq_eq_false_iff_ne.2 hb
      have hu : Lib.indexByte (b :: r) c = if Lib.indexByte r c == -1 then -1 else Lib.indexByte r c + 1 := by
        conv => lhs; unfold Lib.indexByte
        rw [hbe]; rfl
      have hge := Lib.indexByte_ge r c
      rcases ih with ⟨h1, h2⟩ | ⟨h1, h2⟩
      · refine Or.inl ⟨?_, fun x hx => ?_⟩
        · rw [hu, if_pos (by rw [beq_iff_eq]; omega)]; decide
        · rw [List.mem_cons] at hx
          rcases hx with hx | hx
          · rw [hx]; exact hb
          · exact h2 x hx
      · refine Or.inr ⟨?_, fun h => h2 fun x hx => h x (by simp [hx])⟩
        rw [hu, if_neg (by rw [beq_iff_eq]; omega)]; omega
theorem word_false {l : List UInt8} (h : l = [] ∨ ¬ NoC 10 l ∨ ¬ NoC 32 l) : wordB l = false := by
  rw [Bool.eq_false_iff]
  intro e
  obtain ⟨h1, h2, h3⟩ := (word_iff l).1 e
  rcases h with h | h | h
  · exact h1 h
  · exact h h2
  · exact h h3
set_option maxHeartbeats 400000 in
theorem isWord_any (s : ByteArray) (w : World) :
    Calls Try.prog 46 #[.string s] w fun e w' => e = .returned (.bool (wordB s.data.toList)) ∧ Below w.heap.size w w' := by
  have H1 := Lib.hid (fun w => Try.strings_IndexByte s 10 w)
  have H2 := Lib.hid (fun w => Try.strings_IndexByte s 32 w)
  have e10 : (10 : Int).toNat.toUInt8 = 10 := rfl
  have e32 : (32 : Int).toNat.toUInt8 = 32 := rfl
  rw [e10] at H1
  rw [e32] at H2
  clear e10 e32
  by_cases h0 : s.data.toList = []
  · have HR : Hid (wordB s.data.toList = false) := Lib.hid (word_false (Or.inl h0))
    have t0 : s.toList = [] := by rw [Lib.toList_data]; exact h0
    clear h0
    go_enter Try.func46, Try.ntmps46
    go_wp2_with fail
    go_ret
    exact ⟨bool_ret HR.out.symm, Below.refl _ _⟩
  · have t0 : ¬ s.toList = [] := by rw [Lib.toList_data]; exact h0
    have HE : Hid (s.toList.isEmpty = false) := Lib.hid (by cases hh : s.toList with | nil => exact absurd hh t0 | cons a b => rfl)
    rcases idx_cases s.data.toList 10 with ⟨h1, h1'⟩ | ⟨h1, h1'⟩
    · rcases idx_cases s.data.toList 32 with ⟨h2, h2'⟩ | ⟨h2, h2'⟩
      · have HR : Hid (wordB s.data.toList = true) := Lib.hid ((word_iff _).2 ⟨h0, h1', h2'⟩)
        clear h0 h1' h2'
        generalize Lib.indexByte s.data.toList 10 = n1 at *
        generalize Lib.indexByte s.data.toList 32 = n2 at *
        go_enter Try.func46, Try.ntmps46
        go_wp2_with (first | (go_at_call 60; go_fit (H1.out _); rintro e w' ⟨rfl, rfl⟩) | (go_at_call 60; go_fit (H2.out _); rintro e w' ⟨rfl, rfl⟩))
        go_ret
        exact ⟨bool_ret (by rw [HR.out, HE.out]; rfl), Below.refl _ _⟩
      · have HR : Hid (wordB s.data.toList = false) := Lib.hid (word_false (Or.inr (Or.inr h2')))
        have g2 : ¬ Lib.indexByte s.data.toList 32 < 0 := by omega
        have HG2 := Lib.hid g2
        clear h0 h1' h2' h2
        generalize Lib.indexByte s.data.toList 10 = n1 at *
        generalize Lib.indexByte s.data.toList 32 = n2 at *
        go_enter Try.func46, Try.ntmps46
        go_wp2_with fail
        refine (H1.out _).mono ?_
        rintro e w' ⟨rfl, rfl⟩
        go_wp2_with fail
        refine (H2.out _).mono ?_
        rintro e w' ⟨rfl, rfl⟩
        go_wp2
        go_ret
        exact ⟨bool_ret (by rw [HR.out, HE.out, decide_eq_false (Int.not_lt.2 HG2.out)]; rfl), Below.refl _ _⟩
    · have HR : Hid (wordB s.data.toList = false) := Lib.hid (word_false (Or.inr (Or.inl h1')))
      have g1 : ¬ Lib.indexByte s.data.toList 10 < 0 := by omega
      clear h0 h1' h1
      generalize Lib.indexByte s.data.toList 10 = n1 at *
      go_enter Try.func46, Try.ntmps46
      go_wp2_with fail
      refine (H1.out _).mono ?_
      rintro e w' ⟨rfl, rfl⟩
      go_wp2
      go_ret
      exact ⟨bool_ret HR.out.symm, Below.refl _ _⟩
/-- So much of a text is seen. -/
def SeenTo (s : ByteArray) (k : Nat) : Prop := k ≤ s.size ∧ ∀ c ∈ s.data.toList.take k, vis c = true
theorem seenTo_next {s : ByteArray} {k : Nat} (h : SeenTo s k) (hk : k < s.size) (hd : vis s[k] = true) : SeenTo s (k + 1) := by
  refine ⟨hk, fun c hc => ?_⟩
  rw [take_succ' _ k (by rw [← Lib.size_eq]; exact hk), List.mem_append] at hc
  rcases hc with hc | hc
  · exact h.2 c hc
  · rw [List.mem_singleton.1 hc]; exact hd
theorem seenTo_all {s : ByteArray} {k : Nat} (h : SeenTo s k) (hk : ¬ k < s.size) : seenB s.data.toList = true := by
  have e := h.2
  rw [List.take_of_length_le (by rw [← Lib.size_eq]; omega)] at e
  exact List.all_eq_true.2 e
theorem seen_out {s : ByteArray} {k : Nat} (hk : k < s.size) (hd : vis s[k] = false) : seenB s.data.toList = false := seen_bad (Array.getElem_mem_toList (xs := s.data) (by simpa using hk)) hd
/-- The place of a key. -/
def keyI (l : List (List UInt8)) (x : List UInt8) : Int := Lib.idxOfS (l.map fun p => ⟨p.toArray⟩) ⟨x.toArray⟩
end Go.Proofs.Ytflnmkgpmjefhaa.Wd
/- A block of one cell (a variable that a closure captures): what lies in it, over calls and stores. No function of the program is named. -/
namespace Go.Proofs.Ytflnmkgpmjefhaa
open Go.RowKit Go.ChangeShapes
def CellAt (N : Nat) (w : World) (v : Value) : Prop := w.cell? ⟨N, 0, none⟩ = some v ∧ w.frozen? ⟨N, 0, none⟩ = false
theorem CellAt.lt {N : Nat} {w : World} {v : Value} (h : CellAt N w v) : N < w.heap.size := World.block_lt_of_cell? w _ h.1
theorem CellAt.on {N M : Nat} {w w' : World} {v : Value} (h : CellAt N w v) (hb : Below M w w') (hM : N < M) : CellAt N w' v :=
  ⟨(hb.cell (by exact hM)).trans h.1, (hb.frozen (by exact hM)).trans h.2⟩
theorem CellAt.keep {N : Nat} {w w' : World} {v : Value} (h : CellAt N w v) (hb : Below w.heap.size w w') : CellAt N w' v := h.on hb h.lt
theorem CellAt.new (w : World) (v : Value) (T : TypeId) : CellAt w.heap.size (w.alloc (.cells #[v] T)) v := ⟨by simp, by simp⟩
theorem CellAt.set {N : Nat} {w : World} {v : Value} (h : CellAt N w v) (u : Value) : CellAt N (w.setCell ⟨N, 0, none⟩ u) u :=
  ⟨World.cell?_setCell_same _ _ _ h.1, by simpa using h.2⟩
theorem CellAt.past {N M : Nat} {w : World} {v : Value} (h : CellAt N w v) (hM : M ≠ N) (u : Value) : CellAt N (w.setCell ⟨M, 0, none⟩ u) v :=
  ⟨(World.cell?_setCell_other w ⟨M, 0, none⟩ ⟨N, 0, none⟩ _ (fun e => hM (congrArg Addr.block e))).trans h.1, by simpa using h.2⟩
end Go.Proofs.Ytflnmkgpmjefhaa
/- Contracts of word's cutting of a text: what each closure takes, the loop that cuts, the lines and the words of a text. -/
namespace Go.Proofs.Ytflnmkgpmjefhaa.Wd
open Go.RowKit Go.ChangeShapes WordPure Str
/-- What a closure has gathered in its variable, at block N. -/
def Gath (N : Nat) (w0 w : World) (xs : List (List UInt8)) : Prop :=
  Below N w0 w ∧ ∃ v, CellAt N w v ∧ w.ownsRow (N + 1) 9 1 v xs.length (xs.map encS)
theorem Gath.start (w : World) : Gath w.heap.size w (w.alloc (.cells #[.slice none 0 0] 58)) [] :=
  ⟨(Below.refl _ _).alloc (Nat.le_refl _) _, _, CellAt.new _ _ _, World.ownsRow_nil _ _ _ _⟩
theorem Gath.keep {N : Nat} {w0 w w' : World} {xs : List (List UInt8)} (h : Gath N w0 w xs) (hb : Below w.heap.size w w') : Gath N w0 w' xs := by
  obtain ⟨h1, v, h2, h3⟩ := h
  exact ⟨h1.trans (hb.mono (Nat.le_of_lt h2.lt)), v, h2.keep hb, owns_below h3 hb⟩
theorem Gath.step {N : Nat} {w0 w w' : World} {xs : List (List UInt8)} {v v' : Value} {o : Obj} (h1 : Below N w0 w) (h2 : CellAt N w v) (h3 : w.ownsRow (N + 1) 9 1 v xs.length (xs.map encS)) (x : List UInt8)
    (g1 : w'.ownsRow (N + 1) 9 1 v' (xs.length + 1) (xs.map encS ++ [encS x])) (g2 : (w.alloc o).grownBy w' v.ownBlock) : Gath N w0 (w'.setCell ⟨N, 0, none⟩ v') (xs ++ [x]) := by
  have hlt := h2.lt
  have hs : (w.alloc o).heap.size = w.heap.size + 1 := by simp
  have b1 : Below (N + 1) w w' := ((Below.refl (N + 1) w).alloc (by omega) o).grown g2 (by rw [hs]; omega) fun j hj => by have := (h3.lt j hj).1; omega
  have b1' : Below N w w' := b1.mono (by omega)
  have b2 : Below N w (w'.setCell ⟨N, 0, none⟩ v') := b1'.setCell (p := ⟨N, 0, none⟩) (Nat.le_refl N) v'
  refine ⟨h1.trans b2, v', (h2.on b1 (by omega)).set v', ?_⟩
  rw [List.map_append, List.length_append]
  exact owns_setCell g1 (by show N < N + 1; omega) v'
theorem Gath.reads {N : Nat} {w0 w : World} {xs : List (List UInt8)} (h : Gath N w0 w xs) : ∃ p cap, CellAt N w (.slice p xs.length cap) ∧ ReadsL encS w.heap.size w p xs ∧ xs.length ≤ cap := by
  obtain ⟨h1, v, h2, h3⟩ := h
  obtain ⟨p, cap, rfl, hr, hc⟩ := owns_readsL rfl h3
  exact ⟨p, cap, h2, hr, hc⟩
theorem byte_eq (c : UInt8) (n : Nat) (hn : n < 256) : ((c.toNat : Nat) : Int) = (n : Int) ↔ c = UInt8.ofNat n := by
  constructor
  · intro h
    apply UInt8.toNat.inj
    have : (UInt8.ofNat n).toNat = n := by simp; omega
    rw [this]; omega
  · intro h
    subst h
    have : (UInt8.ofNat n).toNat = n := by simp; omega
    rw [this]
/-- At the head of a round of cut. -/
def CutRel (c : UInt8) (N : Nat) (w0 : World) (l : List UInt8) (d : List (List UInt8)) (f k : Nat) (w : World) : Prop := At c l d f k ∧ Gath N w0 w d
end Go.Proofs.Ytflnmkgpmjefhaa.Wd
/- Contracts: what the closure of Words takes, the loop that cuts with it; the lines and the words of a text, as the program tells them. -/
namespace Go.Proofs.Ytflnmkgpmjefhaa.Wd
open Go.RowKit Go.ChangeShapes WordPure Str
set_option maxHeartbeats 1000000 in
theorem takeWord_yes (N : Nat) (w0 w : World) (xs : List (List UInt8)) (x : ByteArray) (h : Gath N w0 w xs) (hw : wordB x.data.toList = true) (hlen : xs.length ≤ 1000000000) :
    Calls Try.prog 45 #[.string x, .pointer (some ⟨N, 0, none⟩)] w fun e w' => e = .returned (.bool true) ∧ Gath N w0 w' (xs ++ [x.data.toList]) := by
  obtain ⟨i0, hi, hz0, hz1, hz2⟩ := info_of infoStr
  have H := Lib.hid h
  have HW := Lib.hid (isWord_any x w)
  rw [hw] at HW
  clear hw h
  go_enter Try.func45, Try.ntmps45
  go_wp2_with fail
  refine HW.out.mono ?_
  rintro e w1 ⟨rfl, hb⟩
  obtain ⟨h1, v, h2, h3⟩ := H.out.keep hb
  have H1 := Lib.hid h1
  have H2 := Lib.hid h2
  have H3 := Lib.hid h3
  have hlt := h2.lt
  obtain ⟨c0, f0⟩ := h2
  clear h1 h3 hb
  go_wp2_with (first
    | (at_builtin; refine wpList_append_own _ rfl _ _ 58 rfl (N + 1) 9 i0 (.string ⟨#[]⟩) 1 16 Try.underlying58 hi hz0 hz1 hz2 rfl (by decide) v xs.length (xs.map encS) rfl (H3.out.alloc _) ⟨w1.heap.size, 0, none⟩ 1 1 [.string x] rfl rfl one_news (by intro u hu; simp at hu; subst hu; rfl) (by unfold maxLen; omega) (by omega) (by simp; omega) ?_))
  intro v' w3 hown hgrow _
  obtain ⟨p, cap, rfl, -, -⟩ := owns_readsL (enc := encS) (l := xs ++ [x.data.toList]) rfl (by rw [List.map_append, List.length_append]; show w3.ownsRow _ _ 1 v' (xs.length + 1) (xs.map encS ++ [encS x.data.toList]); unfold encS; rw [mk_self]; exact hown)
  have HG : Hid (Gath N w0 (w3.setCell ⟨N, 0, none⟩ (.slice p (xs ++ [x.data.toList]).length cap)) (xs ++ [x.data.toList])) := Lib.hid (Gath.step H1.out H2.out H3.out _ (by unfold encS; rw [mk_self]; exact hown) hgrow)
  have hs : (w1.alloc (.cells #[.string x] 9)).heap.size = w1.heap.size + 1 := by simp
  have b1 : Below (N + 1) w1 w3 := ((Below.refl (N + 1) w1).alloc (by omega) _).grown hgrow (by rw [hs]; omega) fun j hj => by have := (H3.out.lt j hj).1; omega
  have c3 := (b1.cell (p := ⟨N, 0, none⟩) (Nat.lt_succ_self N)).trans c0
  have f3 := (b1.frozen (p := ⟨N, 0, none⟩) (Nat.lt_succ_self N)).trans f0
  have lt3 : N < w3.heap.size := World.block_lt_of_cell? w3 _ c3
  clear hown hgrow b1 hs
  go_wp2
  go_ret
  exact ⟨rfl, by have h := HG.out; rw [List.length_append, List.length_singleton] at h; exact h⟩
set_option maxHeartbeats 1000000 in
theorem takeWord_no (N : Nat) (w0 w : World) (xs : List (List UInt8)) (x : ByteArray) (h : Gath N w0 w xs) (hw : wordB x.data.toList = false) :
    Calls Try.prog 45 #[.string x, .pointer (some ⟨N, 0, none⟩)] w fun e w' => e = .returned (.bool false) ∧ Gath N w0 w' xs := by
  have H := Lib.hid h
  have HW := Lib.hid (isWord_any x w)
  rw [hw] at HW
  clear hw h
  go_enter Try.func45, Try.ntmps45
  go_wp2_with fail
  refine HW.out.mono ?_
  rintro e w1 ⟨rfl, hb⟩
  have H1 := Lib.hid (H.out.keep hb)
  clear hb
  go_wp2
  go_ret
  exact ⟨rfl, H1.out⟩
/-- What is left where one piece was no word. -/
def NoWords (l R : List UInt8) : Prop := wordB R = false ∧ ∃ p ∈ splitC 32 l, wordB p = false
theorem no_words {l : List UInt8} {d : List (List UInt8)} {f k : Nat} (h : At 32 l d f k) (hk : k < l.length) (hc : l[k] = 32) (hw : wordB ((l.drop f).take (k - f)) = false) : NoWords l (l.drop f) := by
  have h2 := (h.hit hk hc).2
  refine ⟨word_false (Or.inr (Or.inr fun hn => ?_)), _, by rw [h2]; simp, hw⟩
  have e := mid_hit l f k h.1 hk
  rw [hc] at e
  exact hn 32 (by rw [e]; simp) rfl
/-- At the head of a round of cut, for words. -/
def CutRelW (N : Nat) (w0 : World) (l : List UInt8) (d : List (List UInt8)) (f k : Nat) (w : World) : Prop := At 32 l d f k ∧ Gath N w0 w d ∧ ∀ p ∈ d, wordB p = true
set_option maxHeartbeats 2000000 in
theorem cutWords_any (s : ByteArray) (hs : s.size ≤ 100000000) (N : Nat) (w0 w : World) (h : Gath N w0 w []) :
    Calls Try.prog 47 #[.string s, .int .u8 32, .func (.func 45) #[] #[.pointer (some ⟨N, 0, none⟩)]] w
      fun e w' => ∃ (d : List (List UInt8)) (R : ByteArray), e = .returned (.string R) ∧ Gath N w0 w' d ∧ d.length ≤ 100000000 ∧ (∀ p ∈ d, wordB p = true) ∧ (splitC 32 s.data.toList = d ++ [R.data.toList] ∨ NoWords s.data.toList R.data.toList) := by
  have HS : Hid (CutRelW N w0 s.data.toList [] 0 0 w) := Lib.hid ⟨At.start _ _, h, fun p hp => by simp at hp⟩
  have HSZ := Lib.hid (Lib.size_eq s)
  clear h
  go_enter Try.func47, Try.ntmps47
  go_wp2
  go_step3
  go_wp2
  go_step3
  go_wp2
  go_loopw [7, 11] (fun g i wr => ∃ (d : List (List UInt8)) (f k : Nat), g = .int .i64 f ∧ i = .int .i64 k ∧ f ≤ k ∧ k ≤ s.size ∧ Hid (CutRelW N w0 s.data.toList d f k wr)) (fun _ i _ => s.size - (intOf i).toNat)
  case atStart => exact ⟨[], 0, 0, rfl, rfl, Nat.le_refl _, Nat.zero_le _, HS⟩
  case round =>
    obtain ⟨d, f, k, rfl, rfl, hfk, hks, HF⟩ := hrel
    have HDL : Hid (d.length ≤ 100000000) := Lib.hid (by have := HF.out.1.len; rw [← HSZ.out] at this; omega)
    by_cases hk : k < s.size
    · have hkl : k < s.data.toList.length := by rw [← HSZ.out]; exact hk
      by_cases hc : s[k] = 32
      · have t : ((s[k].toNat : Nat) : Int) = 32 := (byte_eq s[k] 32 (by decide)).2 hc
        cases hw : wordB ((s.data.toList.drop f).take (k - f)) with
        | true =>
          have HH := Lib.hid (HF.out.1.hit hkl hc)
          have HC := Lib.hid (takeWord_yes N w0 wr d (s.extract f k) HF.out.2.1 (by rw [extract_mid]; exact hw) (by have := HDL.out; omega))
          have HA : Hid (∀ p ∈ d ++ [(s.data.toList.drop f).take (k - f)], wordB p = true) := Lib.hid fun p hp => by
            rw [List.mem_append] at hp
            rcases hp with hp | hp
            · exact HF.out.2.2 p hp
            · rw [List.mem_singleton.1 hp]; exact hw
          clear hc hw
          go_wp2_with fail
          refine HC.out.mono ?_
          rintro e w1 ⟨rfl, hg⟩
          rw [extract_mid] at hg
          have HN : Hid (CutRelW N w0 s.data.toList (d ++ [(s.data.toList.drop f).take (k - f)]) (k + 1) (k + 1) w1) := Lib.hid ⟨HH.out.1, hg, HA.out⟩
          clear hg HC
          go_wp2
          go_roundw
          case rel => exact ⟨_, k + 1, k + 1, by go_num, by go_num, Nat.le_refl _, hk, HN⟩
          case measure => simp [intOf]; omega
        | false =>
          have HC := Lib.hid (takeWord_no N w0 wr d (s.extract f k) HF.out.2.1 (by rw [extract_mid]; exact hw))
          have HE : Hid (NoWords s.data.toList (s.extract f s.size).data.toList) := Lib.hid (by rw [extract_rest]; exact no_words HF.out.1 hkl hc hw)
          have HA := Lib.hid HF.out.2.2
          clear hc hw
          go_wp2_with fail
          refine HC.out.mono ?_
          rintro e w1 ⟨rfl, hg⟩
          have HG := Lib.hid hg
          clear hg HC
          go_wp2
          rw [Exit.noGoto_ret]
          go_ret
          exact ⟨d, _, rfl, HG.out, HDL.out, HA.out, Or.inr HE.out⟩
      · have t : ¬ ((s[k].toNat : Nat) : Int) = 32 := fun e => hc ((byte_eq s[k] 32 (by decide)).1 e)
        have HN : Hid (CutRelW N w0 s.data.toList d f (k + 1) wr) := Lib.hid ⟨HF.out.1.skip hkl hc, HF.out.2⟩
        clear hc
        go_wp2
        go_roundw
        case rel => exact ⟨d, f, k + 1, rfl, by go_num, by omega, hk, HN⟩
        case measure => simp [intOf]; omega
    · have HE : Hid (splitC 32 s.data.toList = d ++ [(s.extract f s.size).data.toList]) := Lib.hid (by rw [extract_rest]; exact HF.out.1.done (by rw [← HSZ.out]; exact hk))
      go_wp2
      rw [Exit.noGoto_ret]
      go_ret
      exact ⟨d, _, rfl, HF.out.2.1, HDL.out, HF.out.2.2, Or.inl HE.out⟩
/-- Pieces, or that there are none, as a pair of results. -/
def PairOut (l : List (List UInt8)) (b : Bool) (e : Ending) (w' : World) : Prop :=
  ∃ p cap, e = .returned (.tuple #[.slice p l.length cap, .bool b]) ∧ ReadsL encS w'.heap.size w' p l ∧ l.length ≤ cap
set_option maxHeartbeats 1000000 in
theorem words_any (s : ByteArray) (hs : s.size ≤ 100000000) (w : World) :
    Calls Try.prog 31 #[.string s] w fun e w' => PairOut (wordsL s.data.toList) (wordsB s.data.toList) e w' ∧ Below w.heap.size w w' := by
  by_cases h0 : s.data.toList = []
  · have t := empty_yes h0
    have HL : Hid (wordsL s.data.toList = []) := Lib.hid (by rw [h0]; rfl)
    have HBB : Hid (wordsB s.data.toList = true) := Lib.hid (by rw [h0]; rfl)
    clear h0
    go_enter Try.func31, Try.ntmps31
    go_wp2
    go_ret2
    refine ⟨⟨none, 0, ?_, ?_⟩, Below.refl _ _⟩
    · rw [HL.out, HBB.out]; rfl
    · rw [HL.out]; exact ⟨ReadsL.nil _ _ _ _, Nat.zero_le _⟩
  · have t := empty_no h0
    have HN := Lib.hid h0
    have HC := Lib.hid (cutWords_any s hs w.heap.size w _ (Gath.start w))
    clear h0
    go_enter Try.func31, Try.ntmps31
    go_wp2_with fail
    refine HC.out.mono ?_
    rintro e w1 ⟨d, R, rfl, hg, hdl, ha, hd⟩
    have HG := Lib.hid hg
    have HA := Lib.hid ha
    have HD := Lib.hid hd
    clear HC hg ha hd
    cases hw : wordB R.data.toList with
    | true =>
      have HT := Lib.hid (takeWord_yes w.heap.size w w1 d R HG.out hw (by omega))
      obtain ⟨hb, hl⟩ : wordsB s.data.toList = true ∧ wordsL s.data.toList = d ++ [R.data.toList] := by
        rcases HD.out with h | h
        · exact words_good HN.out h fun p hp => by
            rw [List.mem_append] at hp
            rcases hp with hp | hp
            · exact HA.out p hp
            · rw [List.mem_singleton.1 hp]; exact hw
        · exact absurd (hw.symm.trans h.1) (by decide)
      have HL := Lib.hid hl
      have HBB := Lib.hid hb
      clear hb hl hw
      go_wp2_with fail
      refine HT.out.mono ?_
      rintro e w2 ⟨rfl, hg⟩
      have HB := Lib.hid hg.1
      obtain ⟨p, cap, ⟨c0, -⟩, hr, hc⟩ := hg.reads
      have HCAP := Lib.hid hc
      have HR := Lib.hid hr
      have lt := World.block_lt_of_cell? w2 _ c0
      clear HT hg hr hc
      go_wp2
      go_ret2
      refine ⟨⟨p, cap, ?_, ?_⟩, HB.out⟩
      · rw [HL.out, HBB.out, List.length_append]; rfl
      · rw [HL.out]; exact ⟨HR.out, HCAP.out⟩
    | false =>
      have HT := Lib.hid (takeWord_no w.heap.size w w1 d R HG.out hw)
      obtain ⟨hb, hl⟩ : wordsB s.data.toList = false ∧ wordsL s.data.toList = [] := by
        rcases HD.out with h | ⟨-, p, hp, hpw⟩
        · exact words_bad HN.out (by rw [h]; simp) hw
        · exact words_bad HN.out hp hpw
      have HL := Lib.hid hl
      have HBB := Lib.hid hb
      clear hb hl hw
      go_wp2_with fail
      refine HT.out.mono ?_
      rintro e w2 ⟨rfl, hg⟩
      have HB := Lib.hid hg.1
      clear HT hg
      go_wp2
      go_ret2
      refine ⟨⟨none, 0, ?_, ?_⟩, HB.out⟩
      · rw [HL.out, HBB.out]; rfl
      · rw [HL.out]; exact ⟨ReadsL.nil _ _ _ _, Nat.zero_le _⟩
end Go.Proofs.Ytflnmkgpmjefhaa.Wd
