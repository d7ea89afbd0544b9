/- Texts that the laws of this seat stand on, part 11. -/
import Derived.Test.YtceejjgmepaonaaGreatDoorPk10
import Derived.BigRegion
import Derived.Deep.CutRange
import Derived.Deep.DeepFit
import Derived.Deep.Cut
/- The library's heap sort at the keys of floats: sorted, and nothing but turned; its turning round of a range. -/
namespace Go.Proofs.YtceejjgmepaonaaGreatDoor.Gk
open Go.RowKit
open Go.Sort hiding Below
theorem sift_size {hi F : Nat} : ∀ (n r : Nat) (d : Array Nat), hi - r ≤ n → (siftDown ltB hi F r d).size = d.size
  | n, r, d, hn => by
    by_cases h1 : 2 * r + 1 < hi
    · by_cases h2 : 2 * r + 2 < hi ∧ ltB d[F + (2 * r + 1)]! d[F + (2 * r + 2)]! = true
      · rw [sd_right h2.1 h2.2]
        split
        · cases n with
          | zero => omega
          | succ n => rw [sift_size n (2 * r + 2) _ (by omega), size_swp]
        · rfl
      · have h3 : ¬ 2 * r + 2 < hi ∨ ltB d[F + (2 * r + 1)]! d[F + (2 * r + 2)]! = false := by
          by_cases h : 2 * r + 2 < hi
          · right
            cases hq : ltB d[F + (2 * r + 1)]! d[F + (2 * r + 2)]!
            · rfl
            · exact absurd ⟨h, hq⟩ h2
          · exact Or.inl h
        rw [sd_left h1 h3]
        split
        · cases n with
          | zero => omega
          | succ n => rw [sift_size n (2 * r + 1) _ (by omega), size_swp]
        · rfl
    · rw [sd_end (by omega)]
/-- The heap is made: k rounds are left. -/
def BuildRel (w0 : World) (blk off hi F k0 : Nat) (d : Array Nat) (k : Nat) (w : World) : Prop := ∃ dk, RowAt w0 blk off dk w ∧ dk.size = d.size ∧ heapBuild ltB hi F k dk = heapBuild ltB hi F k0 d
/-- The greatest go to the end: k rounds are left. -/
def PopRel (w0 : World) (blk off hi F : Nat) (d : Array Nat) (k : Nat) (w : World) : Prop := ∃ dk, RowAt w0 blk off dk w ∧ dk.size = d.size ∧ heapPop ltB F k dk = heapPop ltB F hi d
set_option maxHeartbeats 1000000 in
set_option maxRecDepth 100000 in
theorem heap_any (blk off cap a b : Nat) (d : Array Nat) (w : World) (hH : Holds encU w blk off d) (hbk : blk < w.heap.size) (hab : a < b) (hb : b ≤ d.size) (hsz : d.size < 4611686018427387904) :
    Calls Tryz.prog 67 #[.slice (some ⟨blk, off, none⟩) d.size cap, .int .i64 a, .int .i64 b] w fun e w' =>
      e = .returned (.tuple #[]) ∧ Turned w blk off a b d (SortedIn ltB a b) w' := by
  have HH := Lib.hid hH
  obtain ⟨hi, hhi⟩ : ∃ hi : Nat, b = a + hi := ⟨b - a, by omega⟩
  have hsub : (b : Int) - (a : Int) = (hi : Int) := by omega
  have h0 : 0 < hi := by omega
  have HS : Hid (BuildRel w blk off hi a ((hi - 1) / 2 + 1) d ((hi - 1) / 2 + 1) w) := ⟨d, RowAt.start hH, rfl, rfl⟩
  have HF : Hid (∀ w', RowAt w blk off (heapPop ltB a hi (heapBuild ltB hi a ((hi - 1) / 2 + 1) d)) w' → Turned w blk off a b d (SortedIn ltB a b) w') := by
    show ∀ w', _ → _
    intro w' h
    have := heapSort_holds swo_lt d a b (by omega) hb
    unfold heapSort at this
    rw [show b - a = hi by omega] at this
    exact ⟨_, h, this.1, this.2⟩
  have hb' : a + hi ≤ d.size := by omega
  have HSUB := Lib.hid hhi
  clear hH hhi
  go_enter Tryz.func67, Tryz.ntmps67
  go_wp2
  go_loopw [9] (fun vi wr => (∃ j : Nat, vi = .int .i64 j ∧ j ≤ (hi - 1) / 2 ∧ Hid (BuildRel w blk off hi a ((hi - 1) / 2 + 1) d (j + 1) wr)) ∨ (vi = .int .i64 (-1) ∧ Hid (BuildRel w blk off hi a ((hi - 1) / 2 + 1) d 0 wr))) (fun vi _ => (intOf vi + 1).toNat)
  case atStart => exact Or.inl ⟨(hi - 1) / 2, by congr 1 <;> omega, by omega, HS⟩
  case round =>
    rcases hrel with ⟨j, rfl, hj, HR⟩ | ⟨rfl, HR⟩
    · obtain ⟨dk, h1, h2, h3⟩ := HR.out
      have hs := sift_any blk off cap j hi a dk wr (h1.holds HH.out hbk h2) (Nat.lt_of_lt_of_le hbk h1.size) (by omega) (by omega) (by omega)
      rw [h2] at hs
      have HSI := Lib.hid hs
      have HN : Hid (∀ w', RowAt wr blk off (siftDown ltB hi a j dk) w' → BuildRel w blk off hi a ((hi - 1) / 2 + 1) d j w') := by
        show ∀ w', _ → _
        intro w' h
        exact ⟨_, h1.trans h hbk (sift_size _ _ _ (Nat.le_refl _)), (sift_size _ _ _ (Nat.le_refl _)).trans h2, h3⟩
      clear hs h1 h2 h3
      go_wp2_with (first | (go_at_call 89; go_fit HSI.out; rintro e w' ⟨rfl, ht⟩; have HT := Lib.hid (HN.out w' ht); clear ht))
      go_roundw
      case rel =>
        cases j with
        | zero => exact Or.inr ⟨rfl, HT⟩
        | succ j => exact Or.inl ⟨j, by congr 1; omega, by omega, HT⟩
      case measure => (simp [intOf] <;> omega)
    · have HB : Hid (RowAt w blk off (heapBuild ltB hi a ((hi - 1) / 2 + 1) d) wr ∧ (heapBuild ltB hi a ((hi - 1) / 2 + 1) d).size = d.size) := by
        obtain ⟨dk, h1, h2, h3⟩ := HR.out
        rw [← h3]
        exact ⟨h1, h2⟩
      generalize heapBuild ltB hi a ((hi - 1) / 2 + 1) d = d1 at *
      go_wp2
      go_loopw [10] (fun vi wr => (∃ j : Nat, vi = .int .i64 j ∧ j < hi ∧ Hid (PopRel w blk off hi a d1 (j + 1) wr)) ∨ (vi = .int .i64 (-1) ∧ Hid (PopRel w blk off hi a d1 0 wr))) (fun vi _ => (intOf vi + 1).toNat)
      case atStart => exact Or.inl ⟨hi - 1, by congr 1; omega, by omega, ⟨d1, HB.out.1, rfl, by rw [show hi - 1 + 1 = hi by omega]⟩⟩
      case round =>
        rcases hrel with ⟨j, rfl, hj, HP⟩ | ⟨rfl, HP⟩
        · obtain ⟨dk, h1, h2, h3⟩ := HP.out
          have hsk : dk.size = d.size := h2.trans HB.out.2
          obtain ⟨G, hG⟩ := named dk
          have hcw : ∀ t, t < d.size → wr.cell? ⟨blk, off + t, none⟩ = some (.int .u32 (G t : Int)) := fun t ht => by
            rw [hG]; exact h1.cell HH.out hbk hsk ht
          have hfw : ∀ t, t < d.size → wr.frozen? ⟨blk, off + t, none⟩ = false := fun t ht => h1.frozen HH.out hbk ht
          have HSI : Hid (∀ W, RowAt w blk off (swp dk a (a + j)) W → Calls Tryz.prog 89 #[.slice (some ⟨blk, off, none⟩) d.size cap, .int .i64 0, .int .i64 j, .int .i64 a] W fun e w' => e = .returned (.tuple #[]) ∧ PopRel w blk off hi a d1 j w') := by
            show ∀ W, _ → _
            intro W hW
            have hz : (swp dk a (a + j)).size = d.size := by rw [size_swp]; exact hsk
            have hs := sift_any blk off cap 0 j a (swp dk a (a + j)) W (hW.holds HH.out hbk hz) (Nat.lt_of_lt_of_le hbk hW.size) (by omega) (by omega) (by omega)
            rw [hz] at hs
            exact hs.mono fun e w' ⟨h, h'⟩ => ⟨h, _, hW.trans h' hbk (sift_size _ _ _ (Nat.le_refl _)), (sift_size _ _ _ (Nat.le_refl _)).trans (by rw [size_swp]; exact h2), h3⟩
          have HG := Lib.hid hG
          have HW := Lib.hid (fun q => h1.swap hbk (j := a) (k := a + j) (by omega) (by omega) q)
          clear hG h1 h2 h3 hsk
          by_cases hj0 : j = 0
          · subst hj0
            go_wp2
            go_region
            all_goals go_wp2_with fail
            refine (HSI.out _ ?_).mono ?_
            · rw [HG.out]
              exact HW.out 1
            rintro e w' ⟨rfl, ht⟩
            have HT := Lib.hid ht
            clear ht
            go_wp2
            go_roundw
            case rel => exact Or.inr ⟨rfl, HT⟩
            case measure => (simp [intOf] <;> omega)
          · go_wp2
            go_region
            all_goals go_wp2_with fail
            refine (HSI.out _ ?_).mono ?_
            · rw [HG.out, HG.out]
              exact HW.out 1
            rintro e w' ⟨rfl, ht⟩
            have HT := Lib.hid ht
            clear ht
            go_wp2
            go_roundw
            case rel =>
              obtain ⟨i, rfl⟩ : ∃ i, j = i + 1 := ⟨j - 1, by omega⟩
              exact Or.inl ⟨i, by congr 1; omega, by omega, HT⟩
            case measure => (simp [intOf] <;> omega)
        · go_wp2
          go_end0
          obtain ⟨dk, h1, h2, h3⟩ := HP.out
          refine ⟨rfl, HF.out _ ?_⟩
          rw [← h3]
          exact h1
end Go.Proofs.YtceejjgmepaonaaGreatDoor.Gk
/- The library's turning round of a range of keys. -/
namespace Go.Proofs.YtceejjgmepaonaaGreatDoor.Gk
open Go.RowKit
open Go.Sort hiding Below
/-- A row that is so far turned within its places. -/
def Mid (w0 : World) (blk off a b : Nat) (d : Array Nat) (w : World) : Prop := ∃ dk, RowAt w0 blk off dk w ∧ PermIn a b d dk
set_option maxHeartbeats 400000 in
set_option maxRecDepth 100000 in
theorem rev_any (blk off cap a b : Nat) (d : Array Nat) (w : World) (hH : Holds encU w blk off d) (hbk : blk < w.heap.size) (hab : a < b) (hb : b ≤ d.size) (hsz : d.size < 4611686018427387904) :
    Calls Tryz.prog 70 #[.slice (some ⟨blk, off, none⟩) d.size cap, .int .i64 a, .int .i64 b] w fun e w' =>
      e = .returned (.tuple #[]) ∧ Mid w blk off a b d w' := by
  have HH := Lib.hid hH
  have HS : Hid (Mid w blk off a b d w) := ⟨d, RowAt.start hH, permIn_refl _ _ _⟩
  clear hH
  go_enter Tryz.func70, Tryz.ntmps70
  go_wp2
  go_loopw [6, 7] (fun vi vj wr => ∃ i j : Nat, vi = .int .i64 i ∧ vj = .int .i64 j ∧ a ≤ i ∧ j < b ∧ Hid (Mid w blk off a b d wr)) (fun _ vj _ => (intOf vj).toNat)
  case atStart => exact ⟨a, b - 1, rfl, by congr 1; omega, by omega, by omega, HS⟩
  case round =>
    obtain ⟨i, j, rfl, rfl, hi, hj, HM⟩ := hrel
    by_cases hlt : i < j
    · obtain ⟨dk, h1, h2⟩ := HM.out
      have hsk : dk.size = d.size := h2.1
      obtain ⟨G, hG⟩ := named dk
      have hcw : ∀ t, t < d.size → wr.cell? ⟨blk, off + t, none⟩ = some (.int .u32 (G t : Int)) := fun t ht => by
        rw [hG]; exact h1.cell HH.out hbk hsk ht
      have hfw : ∀ t, t < d.size → wr.frozen? ⟨blk, off + t, none⟩ = false := fun t ht => h1.frozen HH.out hbk ht
      have HG := Lib.hid hG
      have HW := Lib.hid (fun q => h1.swap hbk (j := i) (k := j) (by omega) (by omega) q)
      have HP := Lib.hid (permIn_trans _ _ _ _ _ h2 (swp_permIn dk a b i j hi (by omega) (by omega) hj (by omega)))
      clear hG h1 h2 hsk
      go_wp2
      go_region
      all_goals go_wp2
      go_roundw
      case rel =>
        refine ⟨i + 1, j - 1, by go_num, by congr 1; omega, by omega, by omega, swp dk i j, ?_, HP.out⟩
        rw [HG.out, HG.out]
        exact HW.out 1
      case measure => (simp [intOf] <;> omega)
    · go_wp2
      go_end0
      exact ⟨rfl, HM.out⟩
end Go.Proofs.YtceejjgmepaonaaGreatDoor.Gk
/- The library's breaking of patterns in a range of keys: nothing but turned. -/
namespace Go.Proofs.YtceejjgmepaonaaGreatDoor.Gk
open Go.RowKit
open Go.Sort hiding Below
/-- What is stored into a block that was made behind w0 turns nothing of the row. -/
theorem RowAt.setNew {w0 w : World} {blk off : Nat} {d : Array Nat} (h : RowAt w0 blk off d w) {N i : Nat} (hN : w0.heap.size ≤ N) (v : Value) : RowAt w0 blk off d (w.setCell ⟨N, i, none⟩ v) := by
  obtain ⟨n, os, rfl⟩ := h
  exact ⟨n, _, by rw [setCell_eq, mapBlock_grow_new _ _ _ _ (by simpa using hN)]⟩
/-- At the head of a round: the generator's cell lies in block N. -/
def BreakRel (w0 : World) (blk off a b N : Nat) (d : Array Nat) (R : Nat) (dk : Array Nat) (w : World) : Prop :=
  RowAt w0 blk off dk w ∧ PermIn a b d dk ∧ R < 18446744073709551616 ∧ w.cell? ⟨N, 0, none⟩ = some (.int .u64 (R : Int)) ∧ w.frozen? ⟨N, 0, none⟩ = false
theorem BreakRel.swap {w0 w : World} {blk off a b N R : Nat} {d dk : Array Nat} (h : BreakRel w0 blk off a b N d R dk w) (hb : blk < w0.heap.size) (hN : w0.heap.size ≤ N) (hbd : b ≤ d.size) {i j : Nat} (hi : a ≤ i) (hi' : i < b) (hj : a ≤ j) (hj' : j < b) (q : Nat) :
    BreakRel w0 blk off a b N d R (swp dk i j) (((w.drewN q).setCell ⟨blk, off + i, none⟩ (.int .u32 (dk[j]! : Int))).setCell ⟨blk, off + j, none⟩ (.int .u32 (dk[i]! : Int))) := by
  obtain ⟨h1, h2, h3, h4, h5⟩ := h
  have hs : dk.size = d.size := h2.1
  refine ⟨h1.swap hb (by omega) (by omega) q, permIn_trans _ _ _ _ _ h2 (swp_permIn dk a b i j hi hi' hj hj' (by omega)), h3, ?_, by simpa using h5⟩
  rw [World.cell?_setCell_other _ ⟨blk, off + j, none⟩ ⟨N, 0, none⟩ _ (fun e => by have := congrArg Addr.block e; simp at this; omega), World.cell?_setCell_other _ ⟨blk, off + i, none⟩ ⟨N, 0, none⟩ _ (fun e => by have := congrArg Addr.block e; simp at this; omega)]
  exact h4
theorem BreakRel.next {w0 w : World} {blk off a b N R : Nat} {d dk : Array Nat} (h : BreakRel w0 blk off a b N d R dk w) (hN : w0.heap.size ≤ N) {R' : Nat} (hR : R' < 18446744073709551616) :
    BreakRel w0 blk off a b N d R' dk ((w.setCell ⟨N, 0, none⟩ (.int .u64 (R' : Int))).drewN 3) := by
  obtain ⟨h1, h2, h3, h4, h5⟩ := h
  exact ⟨(h1.setNew hN _).drewN 3, h2, hR, World.cell?_setCell_same _ _ _ h4, by simpa using h5⟩
theorem and_bound (R M : Nat) (hR : R < 18446744073709551616) (hM : M < 18446744073709551616) (h1 : 1 ≤ M) : ∃ O : Nat, O ≤ M - 1 ∧ bits .and .u64 (R : Int) ((M : Int) - 1) = (O : Int) := by
  refine ⟨R &&& (M - 1), Nat.and_le_right, ?_⟩
  rw [show ((M : Int) - 1) = ((M - 1 : Nat) : Int) by omega, bits_and_u64_nat _ _ hR (by omega)]
theorem next_any (N R : Nat) (hR : R < 18446744073709551616) (w : World) (hc : w.cell? ⟨N, 0, none⟩ = some (.int .u64 (R : Int))) (hf : w.frozen? ⟨N, 0, none⟩ = false) :
    Calls Tryz.prog 91 #[.pointer (some ⟨N, 0, none⟩)] w fun e w' => ∃ R' : Nat, R' < 18446744073709551616 ∧ e = .returned (.int .u64 (R' : Int)) ∧ w' = (w.setCell ⟨N, 0, none⟩ (.int .u64 (R' : Int))).drewN 3 :=
  (AnyF.xorshift_Next Tryz.lays48 N 0 R hR w hc hf).mono fun _ _ ⟨h1, h2⟩ => ⟨_, xorNextN_lt R hR, h1, h2⟩
theorem pow_any (n : Nat) (h0 : 0 < n) (hn : n < 4611686018427387904) (w : World) : ∃ M : Nat, 1 ≤ M ∧ M ≤ 2 * n ∧
    Calls Tryz.prog 90 #[.int .i64 n] w fun e w' => e = .returned (.int .u64 (M : Int)) ∧ w = w' :=
  ⟨1 <<< bitsLen n, by rw [Nat.one_shiftLeft]; exact Nat.two_pow_pos _, by rw [Nat.one_shiftLeft]; exact two_pow_bitsLen_le h0,
    (AnyF.nextPowerOfTwo Tryz.lays47 n hn w).mono fun _ _ ⟨h1, h2⟩ => ⟨h1, h2.symm⟩⟩
set_option maxHeartbeats 1000000 in
set_option maxRecDepth 100000 in
theorem break_any (blk off cap a b : Nat) (d : Array Nat) (w : World) (hH : Holds encU w blk off d) (hbk : blk < w.heap.size) (h12 : 12 < b - a) (hb : b ≤ d.size) (hsz : d.size < 4611686018427387904) :
    Calls Tryz.prog 68 #[.slice (some ⟨blk, off, none⟩) d.size cap, .int .i64 a, .int .i64 b] w fun e w' =>
      e = .returned (.tuple #[]) ∧ Mid w blk off a b d w' := by
  have HH := Lib.hid hH
  obtain ⟨L, hL⟩ : ∃ L : Nat, b = a + L := ⟨b - a, by omega⟩
  have hsub : (b : Int) - (a : Int) = (L : Int) := by omega
  have hL8 : 12 < L := by omega
  have hbL : a + L ≤ d.size := by omega
  have HL := Lib.hid hL
  obtain ⟨M, hM1, hM2, hpow⟩ := pow_any L (by omega) (by omega) (w.alloc (.cells #[.int .u64 (L : Int)] 143))
  have HPOW := Lib.hid hpow
  have HS : Hid (BreakRel w blk off a b w.heap.size d L d (w.alloc (.cells #[.int .u64 (L : Int)] 143))) :=
    ⟨(RowAt.start hH).alloc _, permIn_refl _ _ _, by omega, by simp, by simp⟩
  clear hH hpow hL
  go_enter Tryz.func68, Tryz.ntmps68
  go_wp2_with (first | (go_at_call 90; go_fit HPOW.out; rintro e w' ⟨rfl, rfl⟩))
  go_loopw [9] (fun vi wr => ∃ x : Nat, vi = .int .i64 x ∧ a ≤ x ∧ x ≤ a + L / 4 * 2 + 2 ∧ Hid (∃ R dk, BreakRel w blk off a b w.heap.size d R dk wr)) (fun vi _ => a + L / 4 * 2 + 2 - (intOf vi).toNat)
  case atStart => exact ⟨a + L / 4 * 2 - 1, by congr 1; omega, by omega, by omega, ⟨_, _, HS.out⟩⟩
  case round =>
    obtain ⟨x, rfl, hx1, hx2, R, dk, HR⟩ := hrel
    by_cases hlt : x ≤ a + L / 4 * 2 + 1
    · have HB := Lib.hid HR
      have HNX := Lib.hid (next_any w.heap.size R HR.2.2.1 wr HR.2.2.2.1 HR.2.2.2.2)
      clear HR
      go_wp2_with fail
      refine HNX.out.mono ?_
      rintro e w1 ⟨R', hR', rfl, rfl⟩
      obtain ⟨O, hO, hand⟩ := and_bound R' M hR' (by omega) hM1
      have HB1 := Lib.hid (HB.out.next (Nat.le_refl _) hR')
      generalize ((wr.setCell ⟨w.heap.size, 0, none⟩ (.int .u64 (R' : Int))).drewN 3) = w1 at *
      go_upto_if 43 with fail
      go_cut [10] from 26 to 64 (fun o wx => ∃ y : Nat, o = .int .i64 y ∧ y < L ∧ wx = w1)
      case first =>
        by_cases hLO : L ≤ O
        · go_wp2_with fail
          go_meet
          case rel => exact ⟨O - L, by congr 1; omega, by omega, rfl⟩
        · go_wp2_with fail
          go_meet
          case rel => exact ⟨O, rfl, by omega, rfl⟩
      case rest =>
        obtain ⟨y, rfl, hy, rfl⟩ := hcut
        have hsk : dk.size = d.size := HB1.out.2.1.1
        obtain ⟨G, hG⟩ := named dk
        have hcw : ∀ t, t < d.size → wc.cell? ⟨blk, off + t, none⟩ = some (.int .u32 (G t : Int)) := fun t ht => by
          rw [hG]; exact HB1.out.1.cell HH.out hbk hsk ht
        have hfw : ∀ t, t < d.size → wc.frozen? ⟨blk, off + t, none⟩ = false := fun t ht => HB1.out.1.frozen HH.out hbk ht
        have HG := Lib.hid hG
        have HW := Lib.hid (fun q => HB1.out.swap hbk (Nat.le_refl _) hb (i := x) (j := a + y) hx1 (by have := HL.out; omega) (by omega) (by have := HL.out; omega) q)
        clear hG hsk
        by_cases hEq : x = a + y
        · go_upto_region 10 with fail
          go_region
          all_goals go_wp2
          go_roundw
          case rel =>
            refine ⟨x + 1, by go_num, by omega, by omega, R', swp dk x (a + y), ?_⟩
            (try rw [hEq])
            simp only [HG.out]
            have := HW.out 1
            rw [hEq] at this
            exact this
          case measure => (simp [intOf] <;> omega)
        · go_upto_region 10 with fail
          go_region
          all_goals go_wp2
          go_roundw
          case rel =>
            refine ⟨x + 1, by go_num, by omega, by omega, R', swp dk x (a + y), ?_⟩
            simp only [HG.out]
            exact HW.out 1
          case measure => (simp [intOf] <;> omega)
    · go_wp2
      go_end0
      exact ⟨rfl, dk, HR.1, HR.2.1⟩
end Go.Proofs.YtceejjgmepaonaaGreatDoor.Gk
/- The library's choice of a pivot in a range of keys: it lies in the range, and the row is as it was. -/
namespace Go.Proofs.YtceejjgmepaonaaGreatDoor.Gk
open Go.RowKit
open Go.Sort hiding Below
/-- The row is d, and the count of swaps lies in block N. -/
def PivRel (w0 : World) (blk off N : Nat) (d : Array Nat) (S : Nat) (w : World) : Prop :=
  RowAt w0 blk off d w ∧ w.cell? ⟨N, 0, none⟩ = some (.int .i64 (S : Int)) ∧ w.frozen? ⟨N, 0, none⟩ = false
theorem PivRel.drewN {w0 w : World} {blk off N S : Nat} {d : Array Nat} (h : PivRel w0 blk off N d S w) (q : Nat) : PivRel w0 blk off N d S (w.drewN q) := ⟨h.1.drewN q, h.2.1, h.2.2⟩
theorem PivRel.up {w0 w : World} {blk off N S : Nat} {d : Array Nat} (h : PivRel w0 blk off N d S w) (hN : w0.heap.size ≤ N) : PivRel w0 blk off N d (S + 1) (w.setCell ⟨N, 0, none⟩ (.int .i64 ((S : Int) + 1))) :=
  ⟨h.1.setNew hN _, World.cell?_setCell_same _ _ _ h.2.1, by simpa using h.2.2⟩
theorem ret_pq {x y p q : Int} (h1 : x = p) (h2 : y = q) : Ending.returned (.tuple #[.int .i64 x, .int .i64 y]) = .returned (.tuple #[.int .i64 p, .int .i64 q]) := by rw [h1, h2]
set_option maxHeartbeats 400000 in
theorem order2_any (w0 : World) (blk off cap N : Nat) (d : Array Nat) (S x y : Nat) (w : World) (hH : Holds encU w0 blk off d) (hbk : blk < w0.heap.size) (hN : w0.heap.size ≤ N) (h : PivRel w0 blk off N d S w)
    (hx : x < d.size) (hy : y < d.size) (hS : S ≤ 1000) (_hsz : d.size < 4611686018427387904) :
    Calls Tryz.prog 100 #[.slice (some ⟨blk, off, none⟩) d.size cap, .int .i64 x, .int .i64 y, .pointer (some ⟨N, 0, none⟩)] w fun e w' =>
      ∃ p q S' : Nat, e = .returned (.tuple #[.int .i64 p, .int .i64 q]) ∧ ((p = x ∧ q = y) ∨ (p = y ∧ q = x)) ∧ S' ≤ S + 1 ∧ PivRel w0 blk off N d S' w' := by
  obtain ⟨G, hG⟩ := named d
  have hcw : ∀ t, t < d.size → w.cell? ⟨blk, off + t, none⟩ = some (.int .u32 (G t : Int)) := fun t ht => by
    rw [hG]; exact h.1.cell hH hbk rfl ht
  have HP := Lib.hid h
  have HN := Lib.hid hN
  obtain ⟨-, hc, hf⟩ := h
  clear hG hH hN
  have hless := fun W => key_less (G y) (G x) W
  cases hl : ltB (G y) (G x)
  · rw [hl] at hless
    have HL := Lib.hid hless
    clear hl hless
    go_enter Tryz.func100, Tryz.ntmps100
    go_wp2
    go_quiet (first | (go_at_call 72; refine Calls.quiet_of_same (HL.out _)))
    go_wp2
    go_ret2
    exact ⟨x, y, S, rfl, Or.inl ⟨rfl, rfl⟩, by omega, HP.out.drewN _⟩
  · rw [hl] at hless
    have HL := Lib.hid hless
    clear hl hless
    go_enter Tryz.func100, Tryz.ntmps100
    go_wp2
    go_quiet (first | (go_at_call 72; refine Calls.quiet_of_same (HL.out _)))
    go_wp2
    go_ret2
    exact ⟨y, x, S + 1, rfl, Or.inr ⟨rfl, rfl⟩, by omega, (HP.out.drewN _).up HN.out⟩
set_option maxHeartbeats 400000 in
theorem median_any (w0 : World) (blk off cap N : Nat) (d : Array Nat) (S x y z : Nat) (w : World) (hH : Holds encU w0 blk off d) (hbk : blk < w0.heap.size) (hN : w0.heap.size ≤ N) (h : PivRel w0 blk off N d S w)
    (hx : x < d.size) (hy : y < d.size) (hz : z < d.size) (hS : S ≤ 900) (hsz : d.size < 4611686018427387904) :
    Calls Tryz.prog 93 #[.slice (some ⟨blk, off, none⟩) d.size cap, .int .i64 x, .int .i64 y, .int .i64 z, .pointer (some ⟨N, 0, none⟩)] w fun e w' =>
      ∃ m S' : Nat, e = .returned (.int .i64 m) ∧ (m = x ∨ m = y ∨ m = z) ∧ S' ≤ S + 3 ∧ PivRel w0 blk off N d S' w' := by
  have C : Hid (∀ S x y W, PivRel w0 blk off N d S W → x < d.size → y < d.size → S ≤ 1000 → Calls Tryz.prog 100 #[.slice (some ⟨blk, off, none⟩) d.size cap, .int .i64 x, .int .i64 y, .pointer (some ⟨N, 0, none⟩)] W fun e w' =>
      ∃ p q S' : Nat, e = .returned (.tuple #[.int .i64 p, .int .i64 q]) ∧ ((p = x ∧ q = y) ∨ (p = y ∧ q = x)) ∧ S' ≤ S + 1 ∧ PivRel w0 blk off N d S' w') :=
    fun S x y W hW h1 h2 h3 => order2_any w0 blk off cap N d S x y W hH hbk hN hW h1 h2 h3 hsz
  have HP := Lib.hid h
  clear h hH hN
  go_enter Tryz.func93, Tryz.ntmps93
  go_wp2_with fail
  refine (C.out S x y w HP.out hx hy (by omega)).mono ?_
  rintro e w1 ⟨p, q, S1, rfl, hpq, hS1, hw1⟩
  have HP1 := Lib.hid hw1
  have hp : p < d.size := by omega
  have hq : q < d.size := by omega
  clear hw1
  go_wp2_with fail
  refine (C.out S1 q z w1 HP1.out hq hz (by omega)).mono ?_
  rintro e w2 ⟨q', r', S2, rfl, hqr, hS2, hw2⟩
  have HP2 := Lib.hid hw2
  have hq' : q' < d.size := by omega
  clear hw2
  go_wp2_with fail
  refine (C.out S2 p q' w2 HP2.out hp hq' (by omega)).mono ?_
  rintro e w3 ⟨p', m, S3, rfl, hpm, hS3, hw3⟩
  have HP3 := Lib.hid hw3
  have hm : m = x ∨ m = y ∨ m = z := by omega
  have hS' : S3 ≤ S + 3 := by omega
  clear hw3 hpq hqr hpm
  go_wp2
  go_ret
  exact ⟨m, S3, rfl, hm, hS', HP3.out⟩
set_option maxHeartbeats 400000 in
theorem adjacent_any (w0 : World) (blk off cap N : Nat) (d : Array Nat) (S x : Nat) (w : World) (hH : Holds encU w0 blk off d) (hbk : blk < w0.heap.size) (hN : w0.heap.size ≤ N) (h : PivRel w0 blk off N d S w)
    (hx0 : 0 < x) (hx : x + 1 < d.size) (hS : S ≤ 900) (hsz : d.size < 4611686018427387904) :
    Calls Tryz.prog 92 #[.slice (some ⟨blk, off, none⟩) d.size cap, .int .i64 x, .pointer (some ⟨N, 0, none⟩)] w fun e w' =>
      ∃ m S' : Nat, e = .returned (.int .i64 m) ∧ x ≤ m + 1 ∧ m ≤ x + 1 ∧ S' ≤ S + 3 ∧ PivRel w0 blk off N d S' w' := by
  have hm := median_any w0 blk off cap N d S (x - 1) x (x + 1) w hH hbk hN h (by omega) (by omega) hx hS hsz
  rw [show ((x - 1 : Nat) : Int) = (x : Int) - 1 by omega, show ((x + 1 : Nat) : Int) = (x : Int) + 1 by omega] at hm
  have HM := Lib.hid hm
  clear hm hH h hN
  go_enter Tryz.func92, Tryz.ntmps92
  go_wp2_with fail
  go_fit HM.out
  rintro e w1 ⟨m, S1, rfl, hpq, hS1, hw1⟩
  have HP1 := Lib.hid hw1
  have h1 : x ≤ m + 1 := by omega
  have h2 : m ≤ x + 1 := by omega
  clear hw1 hpq
  go_wp2
  go_ret
  exact ⟨m, S1, rfl, h1, h2, hS1, HP1.out⟩
set_option maxHeartbeats 1000000 in
set_option maxRecDepth 100000 in
theorem pivot_any (blk off cap a b : Nat) (d : Array Nat) (w : World) (hH : Holds encU w blk off d) (hbk : blk < w.heap.size) (h12 : 12 < b - a) (hb : b ≤ d.size) (hsz : d.size < 4611686018427387904) :
    Calls Tryz.prog 69 #[.slice (some ⟨blk, off, none⟩) d.size cap, .int .i64 a, .int .i64 b] w fun e w' =>
      ∃ m h : Nat, e = .returned (.tuple #[.int .i64 m, .int .i64 h]) ∧ a ≤ m ∧ m < b ∧ (h = 0 ∨ h = 1 ∨ h = 2) ∧ RowAt w blk off d w' := by
  obtain ⟨L, hL⟩ : ∃ L : Nat, b = a + L := ⟨b - a, by omega⟩
  obtain ⟨Q, hQ⟩ : ∃ Q : Nat, Q = L / 4 := ⟨_, rfl⟩
  have hsub : (b : Int) - (a : Int) = (L : Int) := by omega
  have hdiv : (L : Int) / 4 = (Q : Int) := by omega
  have hLQ : 4 * Q ≤ L ∧ L < 4 * Q + 4 := by omega
  obtain ⟨hLQ1, hLQ2⟩ := hLQ
  have hL8 : 12 < L := by omega
  have hbL : a + L ≤ d.size := by omega
  have HL := Lib.hid hL
  have HS : Hid (PivRel w blk off w.heap.size d 0 (w.alloc (.cells #[.int .i64 0] 3))) := ⟨(RowAt.start hH).alloc _, by simp, by simp⟩
  have A : Hid (∀ S x W, PivRel w blk off w.heap.size d S W → 0 < x → x + 1 < d.size → S ≤ 900 → Calls Tryz.prog 92 #[.slice (some ⟨blk, off, none⟩) d.size cap, .int .i64 x, .pointer (some ⟨w.heap.size, 0, none⟩)] W fun e w' =>
      ∃ m S' : Nat, e = .returned (.int .i64 m) ∧ x ≤ m + 1 ∧ m ≤ x + 1 ∧ S' ≤ S + 3 ∧ PivRel w blk off w.heap.size d S' w') :=
    fun S x W hW h1 h2 h3 => adjacent_any w blk off cap w.heap.size d S x W hH hbk (Nat.le_refl _) hW h1 h2 h3 hsz
  have C : Hid (∀ S x y z W, PivRel w blk off w.heap.size d S W → x < d.size → y < d.size → z < d.size → S ≤ 900 → Calls Tryz.prog 93 #[.slice (some ⟨blk, off, none⟩) d.size cap, .int .i64 x, .int .i64 y, .int .i64 z, .pointer (some ⟨w.heap.size, 0, none⟩)] W fun e w' =>
      ∃ m S' : Nat, e = .returned (.int .i64 m) ∧ (m = x ∨ m = y ∨ m = z) ∧ S' ≤ S + 3 ∧ PivRel w blk off w.heap.size d S' w') :=
    fun S x y z W hW h1 h2 h3 h4 => median_any w blk off cap w.heap.size d S x y z W hH hbk (Nat.le_refl _) hW h1 h2 h3 h4 hsz
  clear hH hL hQ
  go_enter Tryz.func69, Tryz.ntmps69
  go_upto_if 34 with fail
  go_cut [10, 11, 12] from 13 (fun vi vj vk wx => ∃ i j k S : Nat, vi = .int .i64 i ∧ vj = .int .i64 j ∧ vk = .int .i64 k ∧ a ≤ i ∧ i < b ∧ a ≤ j ∧ j < b ∧ a ≤ k ∧ k < b ∧ S ≤ 9 ∧ Hid (PivRel w blk off w.heap.size d S wx))
  case first =>
    by_cases h50 : 50 ≤ L
    · go_wp2_with fail
      have c1 := A.out 0 (a + Q) _ HS.out (by omega) (by omega) (by omega)
      rw [show ((a + Q : Nat) : Int) = (a : Int) + (Q : Int) by omega] at c1
      go_fit c1
      rintro e w1 ⟨i, S1, rfl, hi1, hi2, hS1, hw1⟩
      have HP1 := Lib.hid hw1
      clear c1 hw1
      go_wp2_with fail
      have c1 := A.out S1 (a + Q * 2) _ HP1.out (by omega) (by omega) (by omega)
      rw [show ((a + Q * 2 : Nat) : Int) = (a : Int) + (Q : Int) * 2 by omega] at c1
      go_fit c1
      rintro e w2 ⟨j, S2, rfl, hj1, hj2, hS2, hw2⟩
      have HP2 := Lib.hid hw2
      clear c1 hw2
      go_wp2_with fail
      have c1 := A.out S2 (a + Q * 3) _ HP2.out (by omega) (by omega) (by omega)
      rw [show ((a + Q * 3 : Nat) : Int) = (a : Int) + (Q : Int) * 3 by omega] at c1
      go_fit c1
      rintro e w3 ⟨k, S3, rfl, hk1, hk2, hS3, hw3⟩
      have HP3 := Lib.hid hw3
      clear c1 hw3
      go_wp2_with fail
      go_meet
      case rel =>
        have hbL' := HL.out
        exact ⟨i, j, k, S3, rfl, rfl, rfl, by omega, by omega, by omega, by omega, by omega, by omega, by omega, HP3⟩
    · go_wp2_with fail
      go_meet
      case rel =>
        have hbL' := HL.out
        exact ⟨a + Q, a + Q * 2, a + Q * 3, 0, by congr 1 <;> omega, by congr 1 <;> omega, by congr 1 <;> omega, by omega, by omega, by omega, by omega, by omega, by omega, by omega, HS⟩
  case rest =>
    obtain ⟨i, j, k, S, rfl, rfl, rfl, hi1, hi2, hj1, hj2, hk1, hk2, hS, HP⟩ := hcut
    go_wp2_with fail
    refine (C.out S i j k wc HP.out (by omega) (by omega) (by omega) (by omega)).mono ?_
    rintro e w1 ⟨m, S1, rfl, hm, hS1, hw1⟩
    have HP1 := Lib.hid hw1
    obtain ⟨hr, hc, hf⟩ := hw1
    have hm1 : a ≤ m := by omega
    have hm2 : m < b := by omega
    clear hr hm
    go_wp2
    · go_ret2
      exact ⟨m, 1, rfl, hm1, hm2, by omega, HP1.out.1⟩
    · go_ret2
      exact ⟨m, 2, rfl, hm1, hm2, by omega, HP1.out.1⟩
    · go_ret2
      exact ⟨m, 0, rfl, hm1, hm2, by omega, HP1.out.1⟩
end Go.Proofs.YtceejjgmepaonaaGreatDoor.Gk
