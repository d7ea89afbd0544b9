/- The library's breaking of patterns in a range of keys: nothing but turned. -/
import Derived.Test.YtbebnhadgbkepaaKeyRev
import Derived.Test.YtbebnhadgbkepaaKeyShelf
import Derived.BigRegion
import Derived.Deep.CutRange
import Derived.Deep.DeepFit
namespace Go.Proofs.Ytbebnhadgbkepaa
open Go.RowKit ForderPure
open Go.Sort hiding Below
/-- What is stored into a block that was made behind w0 turns nothing of the row. -/
theorem RowAt.setNew {w0 w : World} {blk off : Nat} {d : Array Nat} (h : RowAt w0 blk off d w) {N i : Nat} (hN : w0.heap.size ≤ N) (v : Value) : RowAt w0 blk off d (w.setCell ⟨N, i, none⟩ v) := by
  obtain ⟨n, os, rfl⟩ := h
  exact ⟨n, _, by rw [setCell_eq, mapBlock_grow_new _ _ _ _ (by simpa using hN)]⟩
/-- At the head of a round: the generator's cell lies in block N. -/
def BreakRel (w0 : World) (blk off a b N : Nat) (d : Array Nat) (R : Nat) (dk : Array Nat) (w : World) : Prop :=
  RowAt w0 blk off dk w ∧ PermIn a b d dk ∧ R < 18446744073709551616 ∧ w.cell? ⟨N, 0, none⟩ = some (.int .u64 (R : Int)) ∧ w.frozen? ⟨N, 0, none⟩ = false
theorem BreakRel.swap {w0 w : World} {blk off a b N R : Nat} {d dk : Array Nat} (h : BreakRel w0 blk off a b N d R dk w) (hb : blk < w0.heap.size) (hN : w0.heap.size ≤ N) (hbd : b ≤ d.size) {i j : Nat} (hi : a ≤ i) (hi' : i < b) (hj : a ≤ j) (hj' : j < b) (q : Nat) :
    BreakRel w0 blk off a b N d R (swp dk i j) (((w.drewN q).setCell ⟨blk, off + i, none⟩ (.int .u64 (dk[j]! : Int))).setCell ⟨blk, off + j, none⟩ (.int .u64 (dk[i]! : Int))) := by
  obtain ⟨h1, h2, h3, h4, h5⟩ := h
  have hs : dk.size = d.size := h2.1
  refine ⟨h1.swap hb (by omega) (by omega) q, permIn_trans _ _ _ _ _ h2 (swp_permIn dk a b i j hi hi' hj hj' (by omega)), h3, ?_, by simpa using h5⟩
  rw [World.cell?_setCell_other _ ⟨blk, off + j, none⟩ ⟨N, 0, none⟩ _ (fun e => by have := congrArg Addr.block e; simp at this; omega), World.cell?_setCell_other _ ⟨blk, off + i, none⟩ ⟨N, 0, none⟩ _ (fun e => by have := congrArg Addr.block e; simp at this; omega)]
  exact h4
theorem BreakRel.next {w0 w : World} {blk off a b N R : Nat} {d dk : Array Nat} (h : BreakRel w0 blk off a b N d R dk w) (hN : w0.heap.size ≤ N) {R' : Nat} (hR : R' < 18446744073709551616) :
    BreakRel w0 blk off a b N d R' dk ((w.setCell ⟨N, 0, none⟩ (.int .u64 (R' : Int))).drewN 3) := by
  obtain ⟨h1, h2, h3, h4, h5⟩ := h
  exact ⟨(h1.setNew hN _).drewN 3, h2, hR, World.cell?_setCell_same _ _ _ h4, by simpa using h5⟩
theorem and_bound (R M : Nat) (hR : R < 18446744073709551616) (hM : M < 18446744073709551616) (h1 : 1 ≤ M) : ∃ O : Nat, O ≤ M - 1 ∧ bits .and .u64 (R : Int) ((M : Int) - 1) = (O : Int) := by
  refine ⟨R &&& (M - 1), Nat.and_le_right, ?_⟩
  rw [show ((M : Int) - 1) = ((M - 1 : Nat) : Int) by omega, bits_and_u64_nat _ _ hR (by omega)]
theorem next_any (N R : Nat) (hR : R < 18446744073709551616) (w : World) (hc : w.cell? ⟨N, 0, none⟩ = some (.int .u64 (R : Int))) (hf : w.frozen? ⟨N, 0, none⟩ = false) :
    Calls Try.prog 54 #[.pointer (some ⟨N, 0, none⟩)] w fun e w' => ∃ R' : Nat, R' < 18446744073709551616 ∧ e = .returned (.int .u64 (R' : Int)) ∧ w' = (w.setCell ⟨N, 0, none⟩ (.int .u64 (R' : Int))).drewN 3 :=
  (AnyF.xorshift_Next Try.lays48 N 0 R hR w hc hf).mono fun _ _ ⟨h1, h2⟩ => ⟨_, xorNextN_lt R hR, h1, h2⟩
theorem pow_any (n : Nat) (h0 : 0 < n) (hn : n < 4611686018427387904) (w : World) : ∃ M : Nat, 1 ≤ M ∧ M ≤ 2 * n ∧
    Calls Try.prog 53 #[.int .i64 n] w fun e w' => e = .returned (.int .u64 (M : Int)) ∧ w = w' :=
  ⟨1 <<< bitsLen n, by rw [Nat.one_shiftLeft]; exact Nat.two_pow_pos _, by rw [Nat.one_shiftLeft]; exact two_pow_bitsLen_le h0,
    (AnyF.nextPowerOfTwo Try.lays47 n hn w).mono fun _ _ ⟨h1, h2⟩ => ⟨h1, h2.symm⟩⟩
set_option maxHeartbeats 1000000 in
set_option maxRecDepth 100000 in
theorem break_any (blk off cap a b : Nat) (d : Array Nat) (w : World) (hH : Holds encU w blk off d) (hbk : blk < w.heap.size) (h12 : 12 < b - a) (hb : b ≤ d.size) (hsz : d.size < 4611686018427387904) :
    Calls Try.prog 43 #[.slice (some ⟨blk, off, none⟩) d.size cap, .int .i64 a, .int .i64 b] w fun e w' =>
      e = .returned (.tuple #[]) ∧ Mid w blk off a b d w' := by
  have HH := Lib.hid hH
  obtain ⟨L, hL⟩ : ∃ L : Nat, b = a + L := ⟨b - a, by omega⟩
  have hsub : (b : Int) - (a : Int) = (L : Int) := by omega
  have hL8 : 12 < L := by omega
  have hbL : a + L ≤ d.size := by omega
  have HL := Lib.hid hL
  obtain ⟨M, hM1, hM2, hpow⟩ := pow_any L (by omega) (by omega) (w.alloc (.cells #[.int .u64 (L : Int)] 71))
  have HPOW := Lib.hid hpow
  have HS : Hid (BreakRel w blk off a b w.heap.size d L d (w.alloc (.cells #[.int .u64 (L : Int)] 71))) :=
    ⟨(RowAt.start hH).alloc _, permIn_refl _ _ _, by omega, by simp, by simp⟩
  clear hH hpow hL
  go_enter Try.func43, Try.ntmps43
  go_wp2_with (first | (go_at_call 53; go_fit HPOW.out; rintro e w' ⟨rfl, rfl⟩))
  go_loopw [9] (fun vi wr => ∃ x : Nat, vi = .int .i64 x ∧ a ≤ x ∧ x ≤ a + L / 4 * 2 + 2 ∧ Hid (∃ R dk, BreakRel w blk off a b w.heap.size d R dk wr)) (fun vi _ => a + L / 4 * 2 + 2 - (intOf vi).toNat)
  case atStart => exact ⟨a + L / 4 * 2 - 1, by congr 1; omega, by omega, by omega, ⟨_, _, HS.out⟩⟩
  case round =>
    obtain ⟨x, rfl, hx1, hx2, R, dk, HR⟩ := hrel
    by_cases hlt : x ≤ a + L / 4 * 2 + 1
    · have HB := Lib.hid HR
      have HNX := Lib.hid (next_any w.heap.size R HR.2.2.1 wr HR.2.2.2.1 HR.2.2.2.2)
      clear HR
      go_wp2_with fail
      refine HNX.out.mono ?_
      rintro e w1 ⟨R', hR', rfl, rfl⟩
      obtain ⟨O, hO, hand⟩ := and_bound R' M hR' (by omega) hM1
      have HB1 := Lib.hid (HB.out.next (Nat.le_refl _) hR')
      generalize ((wr.setCell ⟨w.heap.size, 0, none⟩ (.int .u64 (R' : Int))).drewN 3) = w1 at *
      go_upto_if 43 with fail
      go_cut [10] from 26 to 64 (fun o wx => ∃ y : Nat, o = .int .i64 y ∧ y < L ∧ wx = w1)
      case first =>
        by_cases hLO : L ≤ O
        · go_wp2_with fail
          go_meet
          case rel => exact ⟨O - L, by congr 1; omega, by omega, rfl⟩
        · go_wp2_with fail
          go_meet
          case rel => exact ⟨O, rfl, by omega, rfl⟩
      case rest =>
        obtain ⟨y, rfl, hy, rfl⟩ := hcut
        have hsk : dk.size = d.size := HB1.out.2.1.1
        obtain ⟨G, hG⟩ := named dk
        have hcw : ∀ t, t < d.size → wc.cell? ⟨blk, off + t, none⟩ = some (.int .u64 (G t : Int)) := fun t ht => by
          rw [hG]; exact HB1.out.1.cell HH.out hbk hsk ht
        have hfw : ∀ t, t < d.size → wc.frozen? ⟨blk, off + t, none⟩ = false := fun t ht => HB1.out.1.frozen HH.out hbk ht
        have HG := Lib.hid hG
        have HW := Lib.hid (fun q => HB1.out.swap hbk (Nat.le_refl _) hb (i := x) (j := a + y) hx1 (by have := HL.out; omega) (by omega) (by have := HL.out; omega) q)
        clear hG hsk
        by_cases hEq : x = a + y
        · go_upto_region 10 with fail
          go_region
          all_goals go_wp2
          go_roundw
          case rel =>
            refine ⟨x + 1, by go_num, by omega, by omega, R', swp dk x (a + y), ?_⟩
            (try rw [hEq])
            simp only [HG.out]
            have := HW.out 1
            rw [hEq] at this
            exact this
          case measure => (simp [intOf] <;> omega)
        · go_upto_region 10 with fail
          go_region
          all_goals go_wp2
          go_roundw
          case rel =>
            refine ⟨x + 1, by go_num, by omega, by omega, R', swp dk x (a + y), ?_⟩
            simp only [HG.out]
            exact HW.out 1
          case measure => (simp [intOf] <;> omega)
    · go_wp2
      go_end0
      exact ⟨rfl, dk, HR.1, HR.2.1⟩
end Go.Proofs.Ytbebnhadgbkepaa
