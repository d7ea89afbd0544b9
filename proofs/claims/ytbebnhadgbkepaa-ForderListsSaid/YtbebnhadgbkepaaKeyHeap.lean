/- The library's heap sort at the keys of floats: sorted, and nothing but turned; its turning round of a range. -/
import Derived.Test.YtbebnhadgbkepaaKeySift
namespace Go.Proofs.Ytbebnhadgbkepaa
open Go.RowKit ForderPure
open Go.Sort hiding Below
theorem sift_size {hi F : Nat} : ∀ (n r : Nat) (d : Array Nat), hi - r ≤ n → (siftDown ltB hi F r d).size = d.size
  | n, r, d, hn => by
    by_cases h1 : 2 * r + 1 < hi
    · by_cases h2 : 2 * r + 2 < hi ∧ ltB d[F + (2 * r + 1)]! d[F + (2 * r + 2)]! = true
      · rw [sd_right h2.1 h2.2]
        split
        · cases n with
          | zero => omega
          | succ n => rw [sift_size n (2 * r + 2) _ (by omega), size_swp]
        · rfl
      · have h3 : ¬ 2 * r + 2 < hi ∨ ltB d[F + (2 * r + 1)]! d[F + (2 * r + 2)]! = false := by
          by_cases h : 2 * r + 2 < hi
          · right
            cases hq : ltB d[F + (2 * r + 1)]! d[F + (2 * r + 2)]!
            · rfl
            · exact absurd ⟨h, hq⟩ h2
          · exact Or.inl h
        rw [sd_left h1 h3]
        split
        · cases n with
          | zero => omega
          | succ n => rw [sift_size n (2 * r + 1) _ (by omega), size_swp]
        · rfl
    · rw [sd_end (by omega)]
/-- The heap is made: k rounds are left. -/
def BuildRel (w0 : World) (blk off hi F k0 : Nat) (d : Array Nat) (k : Nat) (w : World) : Prop := ∃ dk, RowAt w0 blk off dk w ∧ dk.size = d.size ∧ heapBuild ltB hi F k dk = heapBuild ltB hi F k0 d
/-- The greatest go to the end: k rounds are left. -/
def PopRel (w0 : World) (blk off hi F : Nat) (d : Array Nat) (k : Nat) (w : World) : Prop := ∃ dk, RowAt w0 blk off dk w ∧ dk.size = d.size ∧ heapPop ltB F k dk = heapPop ltB F hi d
set_option maxHeartbeats 1000000 in
set_option maxRecDepth 100000 in
theorem heap_any (blk off cap a b : Nat) (d : Array Nat) (w : World) (hH : Holds encU w blk off d) (hbk : blk < w.heap.size) (hab : a < b) (hb : b ≤ d.size) (hsz : d.size < 4611686018427387904) :
    Calls Try.prog 42 #[.slice (some ⟨blk, off, none⟩) d.size cap, .int .i64 a, .int .i64 b] w fun e w' =>
      e = .returned (.tuple #[]) ∧ Turned w blk off a b d (SortedIn ltB a b) w' := by
  have HH := Lib.hid hH
  obtain ⟨hi, hhi⟩ : ∃ hi : Nat, b = a + hi := ⟨b - a, by omega⟩
  have hsub : (b : Int) - (a : Int) = (hi : Int) := by omega
  have h0 : 0 < hi := by omega
  have HS : Hid (BuildRel w blk off hi a ((hi - 1) / 2 + 1) d ((hi - 1) / 2 + 1) w) := ⟨d, RowAt.start hH, rfl, rfl⟩
  have HF : Hid (∀ w', RowAt w blk off (heapPop ltB a hi (heapBuild ltB hi a ((hi - 1) / 2 + 1) d)) w' → Turned w blk off a b d (SortedIn ltB a b) w') := by
    show ∀ w', _ → _
    intro w' h
    have := heapSort_holds swo_lt d a b (by omega) hb
    unfold heapSort at this
    rw [show b - a = hi by omega] at this
    exact ⟨_, h, this.1, this.2⟩
  have hb' : a + hi ≤ d.size := by omega
  have HSUB := Lib.hid hhi
  clear hH hhi
  go_enter Try.func42, Try.ntmps42
  go_wp2
  go_loopw [9] (fun vi wr => (∃ j : Nat, vi = .int .i64 j ∧ j ≤ (hi - 1) / 2 ∧ Hid (BuildRel w blk off hi a ((hi - 1) / 2 + 1) d (j + 1) wr)) ∨ (vi = .int .i64 (-1) ∧ Hid (BuildRel w blk off hi a ((hi - 1) / 2 + 1) d 0 wr))) (fun vi _ => (intOf vi + 1).toNat)
  case atStart => exact Or.inl ⟨(hi - 1) / 2, by congr 1 <;> omega, by omega, HS⟩
  case round =>
    rcases hrel with ⟨j, rfl, hj, HR⟩ | ⟨rfl, HR⟩
    · obtain ⟨dk, h1, h2, h3⟩ := HR.out
      have hs := sift_any blk off cap j hi a dk wr (h1.holds HH.out hbk h2) (Nat.lt_of_lt_of_le hbk h1.size) (by omega) (by omega) (by omega)
      rw [h2] at hs
      have HSI := Lib.hid hs
      have HN : Hid (∀ w', RowAt wr blk off (siftDown ltB hi a j dk) w' → BuildRel w blk off hi a ((hi - 1) / 2 + 1) d j w') := by
        show ∀ w', _ → _
        intro w' h
        exact ⟨_, h1.trans h hbk (sift_size _ _ _ (Nat.le_refl _)), (sift_size _ _ _ (Nat.le_refl _)).trans h2, h3⟩
      clear hs h1 h2 h3
      go_wp2_with (first | (go_at_call 52; go_fit HSI.out; rintro e w' ⟨rfl, ht⟩; have HT := Lib.hid (HN.out w' ht); clear ht))
      go_roundw
      case rel =>
        cases j with
        | zero => exact Or.inr ⟨rfl, HT⟩
        | succ j => exact Or.inl ⟨j, by congr 1; omega, by omega, HT⟩
      case measure => (simp [intOf] <;> omega)
    · have HB : Hid (RowAt w blk off (heapBuild ltB hi a ((hi - 1) / 2 + 1) d) wr ∧ (heapBuild ltB hi a ((hi - 1) / 2 + 1) d).size = d.size) := by
        obtain ⟨dk, h1, h2, h3⟩ := HR.out
        rw [← h3]
        exact ⟨h1, h2⟩
      generalize heapBuild ltB hi a ((hi - 1) / 2 + 1) d = d1 at *
      go_wp2
      go_loopw [10] (fun vi wr => (∃ j : Nat, vi = .int .i64 j ∧ j < hi ∧ Hid (PopRel w blk off hi a d1 (j + 1) wr)) ∨ (vi = .int .i64 (-1) ∧ Hid (PopRel w blk off hi a d1 0 wr))) (fun vi _ => (intOf vi + 1).toNat)
      case atStart => exact Or.inl ⟨hi - 1, by congr 1; omega, by omega, ⟨d1, HB.out.1, rfl, by rw [show hi - 1 + 1 = hi by omega]⟩⟩
      case round =>
        rcases hrel with ⟨j, rfl, hj, HP⟩ | ⟨rfl, HP⟩
        · obtain ⟨dk, h1, h2, h3⟩ := HP.out
          have hsk : dk.size = d.size := h2.trans HB.out.2
          obtain ⟨G, hG⟩ := named dk
          have hcw : ∀ t, t < d.size → wr.cell? ⟨blk, off + t, none⟩ = some (.int .u64 (G t : Int)) := fun t ht => by
            rw [hG]; exact h1.cell HH.out hbk hsk ht
          have hfw : ∀ t, t < d.size → wr.frozen? ⟨blk, off + t, none⟩ = false := fun t ht => h1.frozen HH.out hbk ht
          have HSI : Hid (∀ W, RowAt w blk off (swp dk a (a + j)) W → Calls Try.prog 52 #[.slice (some ⟨blk, off, none⟩) d.size cap, .int .i64 0, .int .i64 j, .int .i64 a] W fun e w' => e = .returned (.tuple #[]) ∧ PopRel w blk off hi a d1 j w') := by
            show ∀ W, _ → _
            intro W hW
            have hz : (swp dk a (a + j)).size = d.size := by rw [size_swp]; exact hsk
            have hs := sift_any blk off cap 0 j a (swp dk a (a + j)) W (hW.holds HH.out hbk hz) (Nat.lt_of_lt_of_le hbk hW.size) (by omega) (by omega) (by omega)
            rw [hz] at hs
            exact hs.mono fun e w' ⟨h, h'⟩ => ⟨h, _, hW.trans h' hbk (sift_size _ _ _ (Nat.le_refl _)), (sift_size _ _ _ (Nat.le_refl _)).trans (by rw [size_swp]; exact h2), h3⟩
          have HG := Lib.hid hG
          have HW := Lib.hid (fun q => h1.swap hbk (j := a) (k := a + j) (by omega) (by omega) q)
          clear hG h1 h2 h3 hsk
          by_cases hj0 : j = 0
          · subst hj0
            go_wp2
            go_region
            all_goals go_wp2_with fail
            refine (HSI.out _ ?_).mono ?_
            · rw [HG.out]
              exact HW.out 1
            rintro e w' ⟨rfl, ht⟩
            have HT := Lib.hid ht
            clear ht
            go_wp2
            go_roundw
            case rel => exact Or.inr ⟨rfl, HT⟩
            case measure => (simp [intOf] <;> omega)
          · go_wp2
            go_region
            all_goals go_wp2_with fail
            refine (HSI.out _ ?_).mono ?_
            · rw [HG.out, HG.out]
              exact HW.out 1
            rintro e w' ⟨rfl, ht⟩
            have HT := Lib.hid ht
            clear ht
            go_wp2
            go_roundw
            case rel =>
              obtain ⟨i, rfl⟩ : ∃ i, j = i + 1 := ⟨j - 1, by omega⟩
              exact Or.inl ⟨i, by congr 1; omega, by omega, HT⟩
            case measure => (simp [intOf] <;> omega)
        · go_wp2
          go_end0
          obtain ⟨dk, h1, h2, h3⟩ := HP.out
          refine ⟨rfl, HF.out _ ?_⟩
          rw [← h3]
          exact h1
end Go.Proofs.Ytbebnhadgbkepaa
