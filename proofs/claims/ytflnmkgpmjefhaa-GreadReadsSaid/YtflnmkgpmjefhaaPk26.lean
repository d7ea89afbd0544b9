/- Texts that the laws of this seat stand on, part 26. -/
import Derived.Test.YtflnmkgpmjefhaaPk25
import Derived.Test.YtflnmkgpmjefhaaPk0
import Derived.Test.YtflnmkgpmjefhaaPk1
import Derived.Test.YtflnmkgpmjefhaaPk10
import Derived.Deep.QuietTactic
import Derived.BigQuiet
/- A contract for the document's own answer on a text's number up to a greatest one. Beside no function of dec. -/
namespace Go.Proofs.Ytflnmkgpmjefhaa.R6
open Go.RowKit Go.ChangeShapes DecPure
set_option maxHeartbeats 2000000 in
theorem refNat_any (s : ByteArray) (hs : s.size ≤ 1000000) (most : Int) (w : World) :
    Calls Try.prog 35 #[.string s, .int .i64 most] w fun e w' => e = .returned (.agg #[.int .i64 (natN s.data.toList most), .int .i64 (natE s.data.toList most)]) ∧ Below w.heap.size w w' := by
  have HC := Lib.hid (refParse_any s hs (w.alloc (.cells #[.int .i64 0, .int .i64 0] 64)))
  have HB : Hid (parseE s.data.toList ≠ 0 → natE s.data.toList most = parseE s.data.toList ∧ natN s.data.toList most = 0) := Lib.hid fun h => nat_bad h most
  have HF : Hid (parseE s.data.toList = 0 → parseN s.data.toList < 0 ∨ most < parseN s.data.toList → natE s.data.toList most = 10 ∧ natN s.data.toList most = 0) := Lib.hid fun h h2 => nat_far h h2
  have HG : Hid (parseE s.data.toList = 0 → ¬(parseN s.data.toList < 0 ∨ most < parseN s.data.toList) → natE s.data.toList most = 0 ∧ natN s.data.toList most = parseN s.data.toList) := Lib.hid fun h h2 => nat_good h h2
  have HZ : Hid (parseE s.data.toList ≠ 0 → parseN s.data.toList = 0) := Lib.hid fun h => by
    rcases parse_cases s.data.toList with ⟨-, -, e⟩ | ⟨-, -, -, e⟩ | ⟨-, -, e, -⟩
    · exact e
    · exact e
    · exact absurd e h
  have hW0 : Below w.heap.size w (w.alloc (.cells #[.int .i64 0, .int .i64 0] 64)) := (Below.refl _ _).alloc (Nat.le_refl _) _
  have HT0 := Lib.hid (TwoAt.new w (.int .i64 0) (.int .i64 0) 64)
  have HK : Hid (w.heap.size < (w.alloc (.cells #[.int .i64 0, .int .i64 0] 64)).heap.size) := Lib.hid (by simp)
  have HB0 := Lib.hid hW0
  clear hW0
  generalize natE s.data.toList most = ne at *
  generalize natN s.data.toList most = nn at *
  generalize parseE s.data.toList = pe at *
  generalize parseN s.data.toList = pn at *
  generalize W0e : w.alloc (.cells #[.int .i64 0, .int .i64 0] 64) = W0 at *
  go_enter Try.func35, Try.ntmps35
  go_wp2_with fail
  refine HC.out.mono ?_
  rintro e w1 ⟨rfl, hb1⟩
  have HB1 := Lib.hid (HB0.out.trans (hb1.mono HB0.out.size))
  have HT1 := Lib.hid (HT0.out.on hb1 HK.out)
  obtain ⟨c0, c1, f0, f1⟩ := HT1.out
  have hlt := HT1.out.lt
  have hle := HB1.out.size
  clear HC hb1
  by_cases h0 : pe = 0
  · subst h0
    by_cases h1 : pn < 0 ∨ most < pn
    · have HR := Lib.hid (HF.out rfl h1)
      rcases h1 with h1 | h1
      · go_wp2
        have hq := HT1.out.set (.int .i64 0) (.int .i64 10)
        obtain ⟨s0, s1, -, -⟩ := hq.on ((Below.refl _ _).alloc (Nat.le_refl _) (.cells #[.int .i64 pn, .int .i64 0] 64)) hq.lt
        refine bodyPost_ret (v := .agg #[.int .i64 0, .int .i64 10]) (by simp [results, Try.results35, go_sem, s0, s1]) rfl ⟨agg_ii HR.out.2.symm HR.out.1.symm, ?_⟩
        exact ((HB1.out.setCell (p := ⟨w.heap.size, 0, none⟩) (Nat.le_refl _) _).setCell (p := ⟨w.heap.size, 1, none⟩) (Nat.le_refl _) _).alloc (by simp; omega) _
      · by_cases h2 : pn < 0
        · go_wp2
          have hq := HT1.out.set (.int .i64 0) (.int .i64 10)
          obtain ⟨s0, s1, -, -⟩ := hq.on ((Below.refl _ _).alloc (Nat.le_refl _) (.cells #[.int .i64 pn, .int .i64 0] 64)) hq.lt
          refine bodyPost_ret (v := .agg #[.int .i64 0, .int .i64 10]) (by simp [results, Try.results35, go_sem, s0, s1]) rfl ⟨agg_ii HR.out.2.symm HR.out.1.symm, ?_⟩
          exact ((HB1.out.setCell (p := ⟨w.heap.size, 0, none⟩) (Nat.le_refl _) _).setCell (p := ⟨w.heap.size, 1, none⟩) (Nat.le_refl _) _).alloc (by simp; omega) _
        · go_wp2
          have hq := HT1.out.set (.int .i64 0) (.int .i64 10)
          obtain ⟨s0, s1, -, -⟩ := hq.on ((Below.refl _ _).alloc (Nat.le_refl _) (.cells #[.int .i64 pn, .int .i64 0] 64)) hq.lt
          refine bodyPost_ret (v := .agg #[.int .i64 0, .int .i64 10]) (by simp [results, Try.results35, go_sem, s0, s1]) rfl ⟨agg_ii HR.out.2.symm HR.out.1.symm, ?_⟩
          exact ((HB1.out.setCell (p := ⟨w.heap.size, 0, none⟩) (Nat.le_refl _) _).setCell (p := ⟨w.heap.size, 1, none⟩) (Nat.le_refl _) _).alloc (by simp; omega) _
    · have HR := Lib.hid (HG.out rfl h1)
      have h2 : ¬ pn < 0 := fun h => h1 (Or.inl h)
      have h3 : ¬ most < pn := fun h => h1 (Or.inr h)
      clear h1
      go_wp2
      have hq := HT1.out.set (.int .i64 pn) (.int .i64 0)
      obtain ⟨s0, s1, -, -⟩ := hq.on ((Below.refl _ _).alloc (Nat.le_refl _) (.cells #[.int .i64 pn, .int .i64 0] 64)) hq.lt
      refine bodyPost_ret (v := .agg #[.int .i64 pn, .int .i64 0]) (by simp [results, Try.results35, go_sem, s0, s1]) rfl ⟨agg_ii HR.out.2.symm HR.out.1.symm, ?_⟩
      exact ((HB1.out.setCell (p := ⟨w.heap.size, 0, none⟩) (Nat.le_refl _) _).setCell (p := ⟨w.heap.size, 1, none⟩) (Nat.le_refl _) _).alloc (by simp; omega) _
  · have HR := Lib.hid (HB.out h0)
    have HZ0 := HZ.out h0
    subst HZ0
    have t : (pe != 0) = true := by simpa using h0
    have t2 : (pe == 0) = false := by simpa using h0
    clear h0
    go_wp2
    have hq := HT1.out.set (.int .i64 0) (.int .i64 pe)
    obtain ⟨s0, s1, -, -⟩ := hq.on ((Below.refl _ _).alloc (Nat.le_refl _) (.cells #[.int .i64 0, .int .i64 pe] 64)) hq.lt
    refine bodyPost_ret (v := .agg #[.int .i64 0, .int .i64 pe]) (by simp [results, Try.results35, go_sem, s0, s1]) rfl ⟨agg_ii HR.out.2.symm HR.out.1.symm, ?_⟩
    exact ((HB1.out.setCell (p := ⟨w.heap.size, 0, none⟩) (Nat.le_refl _) _).setCell (p := ⟨w.heap.size, 1, none⟩) (Nat.le_refl _) _).alloc (by simp; omega) _
end Go.Proofs.Ytflnmkgpmjefhaa.R6
/- Contracts of the document's own answer of layer 7: the words of a text (straitref07's word, Words). Beside no function of word. -/
namespace Go.Proofs.Ytflnmkgpmjefhaa.R7
open Go.RowKit Go.ChangeShapes WordPure Str
theorem word_false {l : List UInt8} (h : l = [] ∨ ¬ NoC 10 l ∨ ¬ NoC 32 l) : wordB l = false := by
  rw [Bool.eq_false_iff]
  intro e
  obtain ⟨h1, h2, h3⟩ := (word_iff l).1 e
  rcases h with h | h | h
  · exact h1 h
  · exact h h2
  · exact h h3
/-- Over so much of a text there is no end of a line and no blank. -/
def ClearTo (s : ByteArray) (k : Nat) : Prop := k ≤ s.size ∧ NoC 10 (s.data.toList.take k) ∧ NoC 32 (s.data.toList.take k)
theorem clear_next {s : ByteArray} {k : Nat} (h : ClearTo s k) (hk : k < s.size) (h1 : s[k] ≠ 10) (h2 : s[k] ≠ 32) : ClearTo s (k + 1) := by
  have e : s.data.toList.take (k + 1) = s.data.toList.take k ++ [s[k]] := take_succ' _ k (by rw [← Lib.size_eq]; exact hk)
  refine ⟨hk, fun c hc => ?_, fun c hc => ?_⟩
  all_goals
    rw [e, List.mem_append] at hc
    rcases hc with hc | hc
  · exact h.2.1 c hc
  · rw [List.mem_singleton.1 hc]; exact h1
  · exact h.2.2 c hc
  · rw [List.mem_singleton.1 hc]; exact h2
theorem clear_all {s : ByteArray} {k : Nat} (h : ClearTo s k) (hk : ¬ k < s.size) : wordB s.data.toList = decide (0 < s.size) := by
  obtain ⟨-, h1, h2⟩ := h
  rw [List.take_of_length_le (by rw [← Lib.size_eq]; omega)] at h1 h2
  have hs := Lib.size_eq s
  by_cases h0 : 0 < s.size
  · rw [decide_eq_true h0]
    exact (word_iff _).2 ⟨fun e => by rw [e, List.length_nil] at hs; omega, h1, h2⟩
  · rw [decide_eq_false h0]
    exact word_false (Or.inl (List.length_eq_zero_iff.1 (by omega)))
set_option maxHeartbeats 1000000 in
theorem refWord_any (s : ByteArray) (hs : s.size ≤ 100000000) (w : World) :
    Calls Try.prog 33 #[.string s] w fun e w' => e = .returned (.bool (wordB s.data.toList)) ∧ Below w.heap.size w w' := by
  have H0 : Hid (ClearTo s 0) := Lib.hid ⟨Nat.zero_le _, fun c hc => by simp at hc, fun c hc => by simp at hc⟩
  go_enter Try.func33, Try.ntmps33
  go_wp2
  go_loopw [3] (fun i wr => ∃ k : Nat, i = .int .i64 k ∧ wr = w ∧ Hid (ClearTo s k)) (fun i _ => s.size - (intOf i).toNat)
  case atStart => exact ⟨0, rfl, rfl, H0⟩
  case round =>
    obtain ⟨k, rfl, rfl, HD⟩ := hrel
    have hkl := HD.out.1
    by_cases hk : k < s.size
    · by_cases h1 : s[k] = 10
      · have t1 : (((s[k].toNat : Nat) : Int) == 10) = true := byte_yes (by decide) h1
        have HX : Hid (wordB s.data.toList = false) := Lib.hid (word_false (Or.inr (Or.inl fun hn => hn _ (mem_at s k hk) h1)))
        clear h1
        go_wp2
        go_ret
        exact ⟨bool_ret HX.out.symm, Below.refl _ _⟩
      · have t1 : (((s[k].toNat : Nat) : Int) == 10) = false := byte_no (by decide) h1
        by_cases h2 : s[k] = 32
        · have t2 : (((s[k].toNat : Nat) : Int) == 32) = true := byte_yes (by decide) h2
          have HX : Hid (wordB s.data.toList = false) := Lib.hid (word_false (Or.inr (Or.inr fun hn => hn _ (mem_at s k hk) h2)))
          clear h1 h2
          go_wp2
          go_ret
          exact ⟨bool_ret HX.out.symm, Below.refl _ _⟩
        · have t2 : (((s[k].toNat : Nat) : Int) == 32) = false := byte_no (by decide) h2
          have HN := Lib.hid (clear_next HD.out hk h1 h2)
          clear h1 h2
          go_wp2
          go_roundw
          case rel => exact ⟨k + 1, by go_num, by trivial, HN⟩
          case measure => simp [intOf]; omega
    · have HA := Lib.hid (clear_all HD.out hk)
      go_wp2
      go_ret
      refine ⟨bool_ret ?_, Below.refl _ _⟩
      rw [HA.out]
/-- Pieces, or that there are none, as a struct. -/
def AggOut (l : List (List UInt8)) (b : Bool) (e : Ending) (w' : World) : Prop :=
  ∃ p cap, e = .returned (.agg #[.slice p l.length cap, .bool b]) ∧ ReadsL encS w'.heap.size w' p l ∧ l.length ≤ cap
/-- At the head of a round of the document's Lines, Words: what is gathered, and the cell of the result. -/
def PickRel (N : Nat) (w0 : World) (d : List (List UInt8)) (v : Value) (w : World) : Prop :=
  GrowRel encS 9 w0 d v w ∧ TwoAt N w (.slice none 0 0) (.bool false) ∧ N < w0.heap.size
theorem PickRel.start (w : World) : PickRel w.heap.size (w.alloc (.cells #[.slice none 0 0, .bool false] 60)) [] (.slice none 0 0) (w.alloc (.cells #[.slice none 0 0, .bool false] 60)) :=
  ⟨GrowRel.start _ _ _, TwoAt.new _ _ _ _, by simp⟩
theorem PickRel.on {N : Nat} {w0 w w' : World} {d : List (List UInt8)} {v : Value} (h : PickRel N w0 d v w) (hb : Below w.heap.size w w') : PickRel N w0 d v w' :=
  ⟨h.1.on hb, h.2.1.on hb h.2.1.lt, h.2.2⟩
theorem PickRel.step {N : Nat} {w0 w w' : World} {d : List (List UInt8)} {v v' : Value} {o : Obj} (h : PickRel N w0 d v w) (x : ByteArray)
    (h1 : w'.ownsRow w0.heap.size 9 1 v' (d.length + 1) (d.map encS ++ [.string x])) (hg : (w.alloc o).grownBy w' v.ownBlock) : PickRel N w0 (d ++ [x.data.toList]) v' w' := by
  obtain ⟨g1, g2, g3⟩ := h
  refine ⟨g1.step _ (by show w'.ownsRow _ _ 1 v' _ (d.map encS ++ [encS x.data.toList]); unfold encS; rw [mk_self]; exact h1) hg, ?_, g3⟩
  have b1 : Below (N + 1) w (w.alloc o) := (Below.refl _ _).alloc (by have := g2.lt; omega) o
  have hgr : Below (N + 1) w w' := b1.grown hg (by have := g2.lt; simp; omega) fun j hj => by have := (g1.2.lt j hj).1; omega
  exact g2.on hgr (by omega)
/-- What stands in the result's cell is the answer. -/
theorem pick_end {N : Nat} {w0 w : World} {d : List (List UInt8)} {p : Option Addr} {cap : Nat} (h : PickRel N w0 d (.slice p d.length cap) w) (u v : Value) :
    ReadsL encS ((w.setCell ⟨N, 0, none⟩ u).setCell ⟨N, 1, none⟩ v).heap.size ((w.setCell ⟨N, 0, none⟩ u).setCell ⟨N, 1, none⟩ v) p d := by
  have h2 := owns_setCell (owns_setCell h.1.2 (p := ⟨N, 0, none⟩) h.2.2 u) (p := ⟨N, 1, none⟩) h.2.2 v
  obtain ⟨p', cap2, he, hrd, -⟩ := owns_readsL rfl h2
  obtain ⟨rfl, -, -⟩ := Value.slice.inj he
  exact hrd
theorem below_two {M : Nat} {w0 w : World} (h : Below M w0 w) (N : Nat) (hN : M ≤ N) (u v : Value) : Below M w0 ((w.setCell ⟨N, 0, none⟩ u).setCell ⟨N, 1, none⟩ v) :=
  (h.setCell (p := ⟨N, 0, none⟩) hN u).setCell (p := ⟨N, 1, none⟩) hN v
/-- What is cut off so far; or the end has come. -/
def WAt (l : List UInt8) (d : List (List UInt8)) (f k : Nat) : Prop :=
  (∀ p ∈ d, wordB p = true) ∧ d.length ≤ k ∧ ((l ≠ [] ∧ At 32 l d f k) ∨ (l = [] ∧ k = 0 ∧ d = []) ∨ (l ≠ [] ∧ k = l.length + 1 ∧ splitC 32 l = d))
theorem WAt.start (l : List UInt8) : WAt l [] 0 0 := by
  refine ⟨fun p hp => by simp at hp, Nat.le_refl _, ?_⟩
  by_cases h : l = []
  · exact Or.inr (Or.inl ⟨h, rfl, rfl⟩)
  · exact Or.inl ⟨h, At.start _ _⟩
theorem WAt.run {l : List UInt8} {d : List (List UInt8)} {f k : Nat} (h : WAt l d f k) (hk : k ≤ l.length) (hl : l ≠ []) : At 32 l d f k := by
  rcases h.2.2 with ⟨-, h2⟩ | ⟨h2, -⟩ | ⟨-, h2, -⟩
  · exact h2
  · exact absurd h2 hl
  · omega
theorem WAt.skip {l : List UInt8} {d : List (List UInt8)} {f k : Nat} (h : WAt l d f k) (hk : k < l.length) (hc : l[k] ≠ 32) : WAt l d f (k + 1) := by
  have hl : l ≠ [] := by intro e; rw [e] at hk; simp at hk
  exact ⟨h.1, by have := h.2.1; omega, Or.inl ⟨hl, (h.run (by omega) hl).skip hk hc⟩⟩
/-- The piece that ends here is one of the text. -/
theorem WAt.piece {l : List UInt8} {d : List (List UInt8)} {f k : Nat} (h : WAt l d f k) (hl : l ≠ []) (hk : k = l.length ∨ ∃ h : k < l.length, l[k] = 32) : (l.drop f).take (k - f) ∈ splitC 32 l := by
  rcases hk with hk | ⟨hk, hc⟩
  · have ha := h.run (by omega) hl
    rw [ha.done (by omega), List.take_of_length_le (by rw [List.length_drop]; omega)]
    simp
  · rw [((h.run (by omega) hl).hit hk hc).2]; simp
theorem WAt.step {l : List UInt8} {d : List (List UInt8)} {f k : Nat} (h : WAt l d f k) (hl : l ≠ []) (hk : k = l.length ∨ ∃ h : k < l.length, l[k] = 32) (hw : wordB ((l.drop f).take (k - f)) = true) : WAt l (d ++ [(l.drop f).take (k - f)]) (k + 1) (k + 1) := by
  refine ⟨fun p hp => ?_, by rw [List.length_append, List.length_singleton]; have := h.2.1; omega, ?_⟩
  · rw [List.mem_append] at hp
    rcases hp with hp | hp
    · exact h.1 p hp
    · rw [List.mem_singleton.1 hp]; exact hw
  · rcases hk with hk | ⟨hk, hc⟩
    · have ha := h.run (by omega) hl
      refine Or.inr (Or.inr ⟨hl, by omega, ?_⟩)
      rw [ha.done (by omega), List.take_of_length_le (by rw [List.length_drop]; omega)]
    · exact Or.inl ⟨hl, ((h.run (by omega) hl).hit hk hc).1⟩
theorem WAt.all {l : List UInt8} {d : List (List UInt8)} {f k : Nat} (h : WAt l d f k) (hk : l = [] ∨ ¬ k ≤ l.length) : wordsL l = d ∧ wordsB l = true := by
  rcases h.2.2 with ⟨h1, h2⟩ | ⟨h1, -, h2⟩ | ⟨h1, -, h2⟩
  · rcases hk with hk | hk
    · exact absurd hk h1
    · exact absurd h2.2.1 hk
  · rw [h1, h2]; exact ⟨rfl, rfl⟩
  · have := words_good h1 h2 h.1; exact ⟨this.2, this.1⟩
set_option maxHeartbeats 4000000 in
theorem refWords_any (s : ByteArray) (hs : s.size ≤ 100000000) (w : World) :
    Calls Try.prog 21 #[.string s] w fun e w' => AggOut (wordsL s.data.toList) (wordsB s.data.toList) e w' ∧ Below w.heap.size w w' := by
  obtain ⟨i0, hi, hz0, hz1, hz2⟩ := info_of infoStr
  have HS := Lib.hid (PickRel.start w)
  have HA : Hid (WAt s.data.toList [] 0 0) := Lib.hid (WAt.start _)
  have HB0 := Lib.hid ((Below.refl w.heap.size w).alloc (Nat.le_refl _) (.cells #[.slice none 0 0, .bool false] 60))
  have HSZ := Lib.hid (Lib.size_eq s)
  go_enter Try.func21, Try.ntmps21
  go_wp2
  generalize (w.alloc (.cells #[.slice none 0 0, .bool false] 60)) = W0 at *
  go_loopw [3, 4, 5] (fun v g i wr => ∃ (d : List (List UInt8)) (f k : Nat), g = .int .i64 f ∧ i = .int .i64 k ∧ f ≤ s.size + 1 ∧ k ≤ s.size + 1 ∧ Hid (WAt s.data.toList d f k) ∧ Hid (PickRel w.heap.size W0 d v wr)) (fun _ _ i _ => s.size + 1 - (intOf i).toNat)
  case atStart => exact ⟨[], 0, 0, rfl, rfl, by omega, by omega, HA, HS⟩
  case round =>
    obtain ⟨d, f, k, rfl, rfl, hf1, hk1, HK, HF⟩ := hrel
    have HBr := Lib.hid (HB0.out.trans (HF.out.1.1.mono HB0.out.size))
    by_cases hrun : k ≤ s.size ∧ 0 < s.size
    · obtain ⟨hk, h0⟩ := hrun
      have HL : Hid (s.data.toList ≠ []) := Lib.hid (fun e => by have := HSZ.out; rw [e, List.length_nil] at this; omega)
      have hfk : f ≤ k := (HK.out.run (by rw [← HSZ.out]; exact hk) HL.out).1
      by_cases hcut : k = s.size ∨ ∃ h : k < s.size, s[k] = 32
      · have HX : Hid (k = s.data.toList.length ∨ ∃ h : k < s.data.toList.length, s.data.toList[k] = 32) := Lib.hid (by
          rcases hcut with h | ⟨h, h2⟩
          · exact Or.inl (by rw [← HSZ.out]; exact h)
          · exact Or.inr ⟨by rw [← HSZ.out]; exact h, h2⟩)
        have HW := Lib.hid (fun w => refWord_any (s.extract f k) (by rw [ByteArray.size_extract]; omega) w)
        rw [extract_mid] at HW
        have HPI := Lib.hid (HK.out.piece HL.out HX.out)
        have HST : Hid (wordB ((s.data.toList.drop f).take (k - f)) = true → WAt s.data.toList (d ++ [(s.extract f k).data.toList]) (k + 1) (k + 1)) := Lib.hid fun h => by rw [extract_mid]; exact HK.out.step HL.out HX.out h
        have HBAD : Hid (wordB ((s.data.toList.drop f).take (k - f)) = false → wordsL s.data.toList = [] ∧ wordsB s.data.toList = false) := Lib.hid fun h => by have := words_bad HL.out HPI.out h; exact ⟨this.2, this.1⟩
        have hdl : d.length ≤ 200000000 := by have := HK.out.2.1; omega
        clear HPI HX
        generalize wordB ((s.data.toList.drop f).take (k - f)) = wb at *
        have hcut2 : ((((k : Nat) : Int) == ((s.size : Nat) : Int)) = true) ∨ ((((k : Nat) : Int) == ((s.size : Nat) : Int)) = false ∧ ∃ h : k < s.size, (((s[k].toNat : Nat) : Int) == 32) = true) := by
          rcases hcut with h | ⟨h, h2⟩
          · exact Or.inl (by rw [h]; simp)
          · exact Or.inr ⟨by rw [beq_eq_false_iff_ne]; omega, h, byte_yes (by decide) h2⟩
        clear hcut
        rcases hcut2 with tk | ⟨tk, hks, tc⟩
        all_goals
          go_wp2_with fail
          refine (HW.out wr).mono ?_
          rintro e w1 ⟨rfl, hb1⟩
          have HB1 := Lib.hid (HBr.out.trans (hb1.mono HBr.out.size))
          have HF1 := Lib.hid (HF.out.on hb1)
          have hsz := HF1.out.1.1.size
          clear hb1
          cases wb with
          | true =>
            go_wp2_with (first
              | (at_builtin; refine wpList_append_own _ rfl _ _ 58 rfl W0.heap.size 9 i0 (.string ⟨#[]⟩) 1 16 Try.underlying58 hi hz0 hz1 hz2 rfl (by decide) u3 d.length (d.map encS) rfl (HF1.out.1.2.alloc _) ⟨w1.heap.size, 0, none⟩ 1 1 [.string (s.extract f k)] rfl rfl one_news (by intro u hu; simp at hu; subst hu; rfl) (by unfold maxLen; omega) (by omega) (by simp; omega) ?_))
            intro v' w3 hown hgrow _
            have HP := Lib.hid (HF1.out.step _ hown hgrow)
            have HN := Lib.hid (HST.out (by trivial))
            clear hown hgrow
            go_wp2
            go_roundw
            case rel => exact ⟨_, k + 1, k + 1, by go_num, by go_num, by omega, by omega, HN, HP⟩
            case measure => simp [intOf]; omega
          | false =>
            have HQ := Lib.hid (HBAD.out rfl)
            obtain ⟨p, cap, rfl, -, -⟩ := HF1.out.1.reads
            obtain ⟨c0, c1, f0, f1⟩ := HF1.out.2.1
            have hz := HF1.out.2.1.lt
            go_wp2
            obtain ⟨s0, s1, -, -⟩ := HF1.out.2.1.set (.slice none 0 0) (.bool false)
            refine bodyPost_ret (v := .agg #[.slice none 0 0, .bool false]) (by simp [results, Try.results21, go_sem, s0, s1]) rfl ⟨⟨none, 0, ?_, ?_, ?_⟩, below_two HB1.out _ (Nat.le_refl _) _ _⟩
            · rw [HQ.out.1, HQ.out.2]; rfl
            · rw [HQ.out.1]; exact ReadsL.nil _ _ _ _
            · rw [HQ.out.1]; exact Nat.le_refl _
      · have hp : k < s.size := Nat.lt_of_le_of_ne hk fun e => hcut (Or.inl e)
        have hc : s[k] ≠ 32 := fun e => hcut (Or.inr ⟨hp, e⟩)
        have HN := Lib.hid (HK.out.skip (by rw [← HSZ.out]; exact hp) hc)
        have tc : (((s[k].toNat : Nat) : Int) == 32) = false := byte_no (by decide) hc
        have tk : (((k : Nat) : Int) == ((s.size : Nat) : Int)) = false := by rw [beq_eq_false_iff_ne]; omega
        clear hcut hc
        go_wp2
        go_roundw
        case rel => exact ⟨d, f, k + 1, rfl, by go_num, hf1, by omega, HN, HF⟩
        case measure => simp [intOf]; omega
    · have HX : Hid (s.data.toList = [] ∨ ¬ k ≤ s.data.toList.length) := Lib.hid (by
        have := HSZ.out
        by_cases h : k ≤ s.size
        · exact Or.inl (List.length_eq_zero_iff.1 (by omega))
        · exact Or.inr (by omega))
      have HQ := Lib.hid (HK.out.all HX.out)
      obtain ⟨p, cap', rfl, -, hcap⟩ := HF.out.1.reads
      have HCap := Lib.hid hcap
      clear hcap
      obtain ⟨c0, c1, f0, f1⟩ := HF.out.2.1
      have hz := HF.out.2.1.lt
      have hrun2 : ¬ k ≤ s.size ∨ (k ≤ s.size ∧ ¬ 0 < s.size) := by omega
      clear hrun
      rcases hrun2 with hrun2 | hrun2
      all_goals
        go_wp2
        obtain ⟨s0, s1, -, -⟩ := HF.out.2.1.set (.slice p d.length cap') (.bool true)
        refine bodyPost_ret (v := .agg #[.slice p d.length cap', .bool true]) (by simp [results, Try.results21, go_sem, s0, s1]) rfl ⟨⟨p, cap', ?_, ?_, ?_⟩, below_two HBr.out _ (Nat.le_refl _) _ _⟩
        · rw [HQ.out.1, HQ.out.2]
        · rw [HQ.out.1]; exact pick_end HF.out _ _
        · rw [HQ.out.1]; exact HCap.out
end Go.Proofs.Ytflnmkgpmjefhaa.R7
