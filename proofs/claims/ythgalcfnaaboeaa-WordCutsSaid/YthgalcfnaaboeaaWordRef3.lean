/- A contract of the document's own answer of layer 7: the words of a text. -/
import Derived.Test.YthgalcfnaaboeaaWordRef2
namespace Go.Proofs.Ythgalcfnaaboeaa.Wd
open Go.RowKit Go.ChangeShapes WordPure Str
/-- What is cut off so far; or the end has come. -/
def WAt (l : List UInt8) (d : List (List UInt8)) (f k : Nat) : Prop :=
  (∀ p ∈ d, wordB p = true) ∧ d.length ≤ k ∧ ((l ≠ [] ∧ At 32 l d f k) ∨ (l = [] ∧ k = 0 ∧ d = []) ∨ (l ≠ [] ∧ k = l.length + 1 ∧ splitC 32 l = d))
theorem WAt.start (l : List UInt8) : WAt l [] 0 0 := by
  refine ⟨fun p hp => by simp at hp, Nat.le_refl _, ?_⟩
  by_cases h : l = []
  · exact Or.inr (Or.inl ⟨h, rfl, rfl⟩)
  · exact Or.inl ⟨h, At.start _ _⟩
theorem WAt.run {l : List UInt8} {d : List (List UInt8)} {f k : Nat} (h : WAt l d f k) (hk : k ≤ l.length) (hl : l ≠ []) : At 32 l d f k := by
  rcases h.2.2 with ⟨-, h2⟩ | ⟨h2, -⟩ | ⟨-, h2, -⟩
  · exact h2
  · exact absurd h2 hl
  · omega
theorem WAt.skip {l : List UInt8} {d : List (List UInt8)} {f k : Nat} (h : WAt l d f k) (hk : k < l.length) (hc : l[k] ≠ 32) : WAt l d f (k + 1) := by
  have hl : l ≠ [] := by intro e; rw [e] at hk; simp at hk
  exact ⟨h.1, by have := h.2.1; omega, Or.inl ⟨hl, (h.run (by omega) hl).skip hk hc⟩⟩
/-- The piece that ends here is one of the text. -/
theorem WAt.piece {l : List UInt8} {d : List (List UInt8)} {f k : Nat} (h : WAt l d f k) (hl : l ≠ []) (hk : k = l.length ∨ ∃ h : k < l.length, l[k] = 32) : (l.drop f).take (k - f) ∈ splitC 32 l := by
  rcases hk with hk | ⟨hk, hc⟩
  · have ha := h.run (by omega) hl
    rw [ha.done (by omega), List.take_of_length_le (by rw [List.length_drop]; omega)]
    simp
  · rw [((h.run (by omega) hl).hit hk hc).2]; simp
theorem WAt.step {l : List UInt8} {d : List (List UInt8)} {f k : Nat} (h : WAt l d f k) (hl : l ≠ []) (hk : k = l.length ∨ ∃ h : k < l.length, l[k] = 32) (hw : wordB ((l.drop f).take (k - f)) = true) : WAt l (d ++ [(l.drop f).take (k - f)]) (k + 1) (k + 1) := by
  refine ⟨fun p hp => ?_, by rw [List.length_append, List.length_singleton]; have := h.2.1; omega, ?_⟩
  · rw [List.mem_append] at hp
    rcases hp with hp | hp
    · exact h.1 p hp
    · rw [List.mem_singleton.1 hp]; exact hw
  · rcases hk with hk | ⟨hk, hc⟩
    · have ha := h.run (by omega) hl
      refine Or.inr (Or.inr ⟨hl, by omega, ?_⟩)
      rw [ha.done (by omega), List.take_of_length_le (by rw [List.length_drop]; omega)]
    · exact Or.inl ⟨hl, ((h.run (by omega) hl).hit hk hc).1⟩
theorem WAt.all {l : List UInt8} {d : List (List UInt8)} {f k : Nat} (h : WAt l d f k) (hk : l = [] ∨ ¬ k ≤ l.length) : wordsL l = d ∧ wordsB l = true := by
  rcases h.2.2 with ⟨h1, h2⟩ | ⟨h1, -, h2⟩ | ⟨h1, -, h2⟩
  · rcases hk with hk | hk
    · exact absurd hk h1
    · exact absurd h2.2.1 hk
  · rw [h1, h2]; exact ⟨rfl, rfl⟩
  · have := words_good h1 h2 h.1; exact ⟨this.2, this.1⟩
set_option maxHeartbeats 4000000 in
theorem refWords_any (s : ByteArray) (hs : s.size ≤ 100000000) (w : World) :
    Calls Try.prog 11 #[.string s] w fun e w' => AggOut (wordsL s.data.toList) (wordsB s.data.toList) e w' ∧ Below w.heap.size w w' := by
  obtain ⟨i0, hi, hz0, hz1, hz2⟩ := info_of infoStr
  have HS := Lib.hid (PickRel.start w)
  have HA : Hid (WAt s.data.toList [] 0 0) := Lib.hid (WAt.start _)
  have HB0 := Lib.hid ((Below.refl w.heap.size w).alloc (Nat.le_refl _) (.cells #[.slice none 0 0, .bool false] 28))
  have HSZ := Lib.hid (Lib.size_eq s)
  go_enter Try.func11, Try.ntmps11
  go_wp2
  generalize (w.alloc (.cells #[.slice none 0 0, .bool false] 28)) = W0 at *
  go_loopw [3, 4, 5] (fun v g i wr => ∃ (d : List (List UInt8)) (f k : Nat), g = .int .i64 f ∧ i = .int .i64 k ∧ f ≤ s.size + 1 ∧ k ≤ s.size + 1 ∧ Hid (WAt s.data.toList d f k) ∧ Hid (PickRel w.heap.size W0 d v wr)) (fun _ _ i _ => s.size + 1 - (intOf i).toNat)
  case atStart => exact ⟨[], 0, 0, rfl, rfl, by omega, by omega, HA, HS⟩
  case round =>
    obtain ⟨d, f, k, rfl, rfl, hf1, hk1, HK, HF⟩ := hrel
    have HBr := Lib.hid (HB0.out.trans (HF.out.1.1.mono HB0.out.size))
    by_cases hrun : k ≤ s.size ∧ 0 < s.size
    · obtain ⟨hk, h0⟩ := hrun
      have HL : Hid (s.data.toList ≠ []) := Lib.hid (fun e => by have := HSZ.out; rw [e, List.length_nil] at this; omega)
      have hfk : f ≤ k := (HK.out.run (by rw [← HSZ.out]; exact hk) HL.out).1
      by_cases hcut : k = s.size ∨ ∃ h : k < s.size, s[k] = 32
      · have HX : Hid (k = s.data.toList.length ∨ ∃ h : k < s.data.toList.length, s.data.toList[k] = 32) := Lib.hid (by
          rcases hcut with h | ⟨h, h2⟩
          · exact Or.inl (by rw [← HSZ.out]; exact h)
          · exact Or.inr ⟨by rw [← HSZ.out]; exact h, h2⟩)
        have HW := Lib.hid (fun w => refWord_any (s.extract f k) (by rw [ByteArray.size_extract]; omega) w)
        rw [extract_mid] at HW
        have HPI := Lib.hid (HK.out.piece HL.out HX.out)
        have HST : Hid (wordB ((s.data.toList.drop f).take (k - f)) = true → WAt s.data.toList (d ++ [(s.extract f k).data.toList]) (k + 1) (k + 1)) := Lib.hid fun h => by rw [extract_mid]; exact HK.out.step HL.out HX.out h
        have HBAD : Hid (wordB ((s.data.toList.drop f).take (k - f)) = false → wordsL s.data.toList = [] ∧ wordsB s.data.toList = false) := Lib.hid fun h => by have := words_bad HL.out HPI.out h; exact ⟨this.2, this.1⟩
        have hdl : d.length ≤ 200000000 := by have := HK.out.2.1; omega
        clear HPI HX
        generalize wordB ((s.data.toList.drop f).take (k - f)) = wb at *
        have hcut2 : ((((k : Nat) : Int) == ((s.size : Nat) : Int)) = true) ∨ ((((k : Nat) : Int) == ((s.size : Nat) : Int)) = false ∧ ∃ h : k < s.size, (((s[k].toNat : Nat) : Int) == 32) = true) := by
          rcases hcut with h | ⟨h, h2⟩
          · exact Or.inl (by rw [h]; simp)
          · exact Or.inr ⟨by rw [beq_eq_false_iff_ne]; omega, h, byte_yes (by decide) h2⟩
        clear hcut
        rcases hcut2 with tk | ⟨tk, hks, tc⟩
        all_goals
          go_wp2_with fail
          refine (HW.out wr).mono ?_
          rintro e w1 ⟨rfl, hb1⟩
          have HB1 := Lib.hid (HBr.out.trans (hb1.mono HBr.out.size))
          have HF1 := Lib.hid (HF.out.on hb1)
          have hsz := HF1.out.1.1.size
          clear hb1
          cases wb with
          | true =>
            go_wp2_with (first
              | (at_builtin; refine wpList_append_own _ rfl _ _ 22 rfl W0.heap.size 9 i0 (.string ⟨#[]⟩) 1 16 Try.underlying22 hi hz0 hz1 hz2 rfl (by decide) u3 d.length (d.map encS) rfl (HF1.out.1.2.alloc _) ⟨w1.heap.size, 0, none⟩ 1 1 [.string (s.extract f k)] rfl rfl one_news (by intro u hu; simp at hu; subst hu; rfl) (by unfold maxLen; omega) (by omega) (by simp; omega) ?_))
            intro v' w3 hown hgrow _
            have HP := Lib.hid (HF1.out.step _ hown hgrow)
            have HN := Lib.hid (HST.out (by trivial))
            clear hown hgrow
            go_wp2
            go_roundw
            case rel => exact ⟨_, k + 1, k + 1, by go_num, by go_num, by omega, by omega, HN, HP⟩
            case measure => simp [intOf]; omega
          | false =>
            have HQ := Lib.hid (HBAD.out rfl)
            obtain ⟨p, cap, rfl, -, -⟩ := HF1.out.1.reads
            obtain ⟨c0, c1, f0, f1⟩ := HF1.out.2.1
            have hz := HF1.out.2.1.lt
            go_wp2
            obtain ⟨s0, s1, -, -⟩ := HF1.out.2.1.set (.slice none 0 0) (.bool false)
            refine bodyPost_ret (v := .agg #[.slice none 0 0, .bool false]) (by simp [results, Try.results11, go_sem, s0, s1]) rfl ⟨⟨none, 0, ?_, ?_⟩, below_two HB1.out _ (Nat.le_refl _) _ _⟩
            · rw [HQ.out.1, HQ.out.2]; rfl
            · rw [HQ.out.1]; exact ReadsL.nil _ _ _ _
      · have hp : k < s.size := Nat.lt_of_le_of_ne hk fun e => hcut (Or.inl e)
        have hc : s[k] ≠ 32 := fun e => hcut (Or.inr ⟨hp, e⟩)
        have HN := Lib.hid (HK.out.skip (by rw [← HSZ.out]; exact hp) hc)
        have tc : (((s[k].toNat : Nat) : Int) == 32) = false := byte_no (by decide) hc
        have tk : (((k : Nat) : Int) == ((s.size : Nat) : Int)) = false := by rw [beq_eq_false_iff_ne]; omega
        clear hcut hc
        go_wp2
        go_roundw
        case rel => exact ⟨d, f, k + 1, rfl, by go_num, hf1, by omega, HN, HF⟩
        case measure => simp [intOf]; omega
    · have HX : Hid (s.data.toList = [] ∨ ¬ k ≤ s.data.toList.length) := Lib.hid (by
        have := HSZ.out
        by_cases h : k ≤ s.size
        · exact Or.inl (List.length_eq_zero_iff.1 (by omega))
        · exact Or.inr (by omega))
      have HQ := Lib.hid (HK.out.all HX.out)
      obtain ⟨p, cap', rfl, -, -⟩ := HF.out.1.reads
      obtain ⟨c0, c1, f0, f1⟩ := HF.out.2.1
      have hz := HF.out.2.1.lt
      have hrun2 : ¬ k ≤ s.size ∨ (k ≤ s.size ∧ ¬ 0 < s.size) := by omega
      clear hrun
      rcases hrun2 with hrun2 | hrun2
      all_goals
        go_wp2
        obtain ⟨s0, s1, -, -⟩ := HF.out.2.1.set (.slice p d.length cap') (.bool true)
        refine bodyPost_ret (v := .agg #[.slice p d.length cap', .bool true]) (by simp [results, Try.results11, go_sem, s0, s1]) rfl ⟨⟨p, cap', ?_, ?_⟩, below_two HBr.out _ (Nat.le_refl _) _ _⟩
        · rw [HQ.out.1, HQ.out.2]
        · rw [HQ.out.1]; exact pick_end HF.out _ _
end Go.Proofs.Ythgalcfnaaboeaa.Wd
