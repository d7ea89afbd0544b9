/- The library's choice of a pivot in a range of keys: it lies in the range, and the row is as it was. -/
import Derived.Test.YtbebnhadgbkepaaKeyBreak
import Derived.Deep.Cut
import Derived.Deep.DeepFit
namespace Go.Proofs.Ytbebnhadgbkepaa
open Go.RowKit ForderPure
open Go.Sort hiding Below
/-- The row is d, and the count of swaps lies in block N. -/
def PivRel (w0 : World) (blk off N : Nat) (d : Array Nat) (S : Nat) (w : World) : Prop :=
  RowAt w0 blk off d w ∧ w.cell? ⟨N, 0, none⟩ = some (.int .i64 (S : Int)) ∧ w.frozen? ⟨N, 0, none⟩ = false
theorem PivRel.drewN {w0 w : World} {blk off N S : Nat} {d : Array Nat} (h : PivRel w0 blk off N d S w) (q : Nat) : PivRel w0 blk off N d S (w.drewN q) := ⟨h.1.drewN q, h.2.1, h.2.2⟩
theorem PivRel.up {w0 w : World} {blk off N S : Nat} {d : Array Nat} (h : PivRel w0 blk off N d S w) (hN : w0.heap.size ≤ N) : PivRel w0 blk off N d (S + 1) (w.setCell ⟨N, 0, none⟩ (.int .i64 ((S : Int) + 1))) :=
  ⟨h.1.setNew hN _, World.cell?_setCell_same _ _ _ h.2.1, by simpa using h.2.2⟩
theorem ret_pq {x y p q : Int} (h1 : x = p) (h2 : y = q) : Ending.returned (.tuple #[.int .i64 x, .int .i64 y]) = .returned (.tuple #[.int .i64 p, .int .i64 q]) := by rw [h1, h2]
set_option maxHeartbeats 400000 in
theorem order2_any (w0 : World) (blk off cap N : Nat) (d : Array Nat) (S x y : Nat) (w : World) (hH : Holds encU w0 blk off d) (hbk : blk < w0.heap.size) (hN : w0.heap.size ≤ N) (h : PivRel w0 blk off N d S w)
    (hx : x < d.size) (hy : y < d.size) (hS : S ≤ 1000) (hsz : d.size < 4611686018427387904) :
    Calls Try.prog 57 #[.slice (some ⟨blk, off, none⟩) d.size cap, .int .i64 x, .int .i64 y, .pointer (some ⟨N, 0, none⟩)] w fun e w' =>
      ∃ p q S' : Nat, e = .returned (.tuple #[.int .i64 p, .int .i64 q]) ∧ ((p = x ∧ q = y) ∨ (p = y ∧ q = x)) ∧ S' ≤ S + 1 ∧ PivRel w0 blk off N d S' w' := by
  obtain ⟨G, hG⟩ := named d
  have hcw : ∀ t, t < d.size → w.cell? ⟨blk, off + t, none⟩ = some (.int .u64 (G t : Int)) := fun t ht => by
    rw [hG]; exact h.1.cell hH hbk rfl ht
  have HP := Lib.hid h
  have HN := Lib.hid hN
  obtain ⟨-, hc, hf⟩ := h
  clear hG hH hN
  have hless := fun W => key_less (G y) (G x) W
  cases hl : ltB (G y) (G x)
  · rw [hl] at hless
    have HL := Lib.hid hless
    clear hl hless
    go_enter Try.func57, Try.ntmps57
    go_wp2
    go_quiet (first | (go_at_call 47; refine Calls.quiet_of_same (HL.out _)))
    go_wp2
    go_ret2
    exact ⟨x, y, S, rfl, Or.inl ⟨rfl, rfl⟩, by omega, HP.out.drewN _⟩
  · rw [hl] at hless
    have HL := Lib.hid hless
    clear hl hless
    go_enter Try.func57, Try.ntmps57
    go_wp2
    go_quiet (first | (go_at_call 47; refine Calls.quiet_of_same (HL.out _)))
    go_wp2
    go_ret2
    exact ⟨y, x, S + 1, rfl, Or.inr ⟨rfl, rfl⟩, by omega, (HP.out.drewN _).up HN.out⟩
set_option maxHeartbeats 400000 in
theorem median_any (w0 : World) (blk off cap N : Nat) (d : Array Nat) (S x y z : Nat) (w : World) (hH : Holds encU w0 blk off d) (hbk : blk < w0.heap.size) (hN : w0.heap.size ≤ N) (h : PivRel w0 blk off N d S w)
    (hx : x < d.size) (hy : y < d.size) (hz : z < d.size) (hS : S ≤ 900) (hsz : d.size < 4611686018427387904) :
    Calls Try.prog 56 #[.slice (some ⟨blk, off, none⟩) d.size cap, .int .i64 x, .int .i64 y, .int .i64 z, .pointer (some ⟨N, 0, none⟩)] w fun e w' =>
      ∃ m S' : Nat, e = .returned (.int .i64 m) ∧ (m = x ∨ m = y ∨ m = z) ∧ S' ≤ S + 3 ∧ PivRel w0 blk off N d S' w' := by
  have C : Hid (∀ S x y W, PivRel w0 blk off N d S W → x < d.size → y < d.size → S ≤ 1000 → Calls Try.prog 57 #[.slice (some ⟨blk, off, none⟩) d.size cap, .int .i64 x, .int .i64 y, .pointer (some ⟨N, 0, none⟩)] W fun e w' =>
      ∃ p q S' : Nat, e = .returned (.tuple #[.int .i64 p, .int .i64 q]) ∧ ((p = x ∧ q = y) ∨ (p = y ∧ q = x)) ∧ S' ≤ S + 1 ∧ PivRel w0 blk off N d S' w') :=
    fun S x y W hW h1 h2 h3 => order2_any w0 blk off cap N d S x y W hH hbk hN hW h1 h2 h3 hsz
  have HP := Lib.hid h
  clear h hH hN
  go_enter Try.func56, Try.ntmps56
  go_wp2_with fail
  refine (C.out S x y w HP.out hx hy (by omega)).mono ?_
  rintro e w1 ⟨p, q, S1, rfl, hpq, hS1, hw1⟩
  have HP1 := Lib.hid hw1
  have hp : p < d.size := by omega
  have hq : q < d.size := by omega
  clear hw1
  go_wp2_with fail
  refine (C.out S1 q z w1 HP1.out hq hz (by omega)).mono ?_
  rintro e w2 ⟨q', r', S2, rfl, hqr, hS2, hw2⟩
  have HP2 := Lib.hid hw2
  have hq' : q' < d.size := by omega
  clear hw2
  go_wp2_with fail
  refine (C.out S2 p q' w2 HP2.out hp hq' (by omega)).mono ?_
  rintro e w3 ⟨p', m, S3, rfl, hpm, hS3, hw3⟩
  have HP3 := Lib.hid hw3
  have hm : m = x ∨ m = y ∨ m = z := by omega
  have hS' : S3 ≤ S + 3 := by omega
  clear hw3 hpq hqr hpm
  go_wp2
  go_ret
  exact ⟨m, S3, rfl, hm, hS', HP3.out⟩
set_option maxHeartbeats 400000 in
theorem adjacent_any (w0 : World) (blk off cap N : Nat) (d : Array Nat) (S x : Nat) (w : World) (hH : Holds encU w0 blk off d) (hbk : blk < w0.heap.size) (hN : w0.heap.size ≤ N) (h : PivRel w0 blk off N d S w)
    (hx0 : 0 < x) (hx : x + 1 < d.size) (hS : S ≤ 900) (hsz : d.size < 4611686018427387904) :
    Calls Try.prog 55 #[.slice (some ⟨blk, off, none⟩) d.size cap, .int .i64 x, .pointer (some ⟨N, 0, none⟩)] w fun e w' =>
      ∃ m S' : Nat, e = .returned (.int .i64 m) ∧ x ≤ m + 1 ∧ m ≤ x + 1 ∧ S' ≤ S + 3 ∧ PivRel w0 blk off N d S' w' := by
  have hm := median_any w0 blk off cap N d S (x - 1) x (x + 1) w hH hbk hN h (by omega) (by omega) hx hS hsz
  rw [show ((x - 1 : Nat) : Int) = (x : Int) - 1 by omega, show ((x + 1 : Nat) : Int) = (x : Int) + 1 by omega] at hm
  have HM := Lib.hid hm
  clear hm hH h hN
  go_enter Try.func55, Try.ntmps55
  go_wp2_with fail
  go_fit HM.out
  rintro e w1 ⟨m, S1, rfl, hpq, hS1, hw1⟩
  have HP1 := Lib.hid hw1
  have h1 : x ≤ m + 1 := by omega
  have h2 : m ≤ x + 1 := by omega
  clear hw1 hpq
  go_wp2
  go_ret
  exact ⟨m, S1, rfl, h1, h2, hS1, HP1.out⟩
set_option maxHeartbeats 1000000 in
set_option maxRecDepth 100000 in
theorem pivot_any (blk off cap a b : Nat) (d : Array Nat) (w : World) (hH : Holds encU w blk off d) (hbk : blk < w.heap.size) (h12 : 12 < b - a) (hb : b ≤ d.size) (hsz : d.size < 4611686018427387904) :
    Calls Try.prog 44 #[.slice (some ⟨blk, off, none⟩) d.size cap, .int .i64 a, .int .i64 b] w fun e w' =>
      ∃ m h : Nat, e = .returned (.tuple #[.int .i64 m, .int .i64 h]) ∧ a ≤ m ∧ m < b ∧ (h = 0 ∨ h = 1 ∨ h = 2) ∧ RowAt w blk off d w' := by
  obtain ⟨L, hL⟩ : ∃ L : Nat, b = a + L := ⟨b - a, by omega⟩
  obtain ⟨Q, hQ⟩ : ∃ Q : Nat, Q = L / 4 := ⟨_, rfl⟩
  have hsub : (b : Int) - (a : Int) = (L : Int) := by omega
  have hdiv : (L : Int) / 4 = (Q : Int) := by omega
  have hLQ : 4 * Q ≤ L ∧ L < 4 * Q + 4 := by omega
  obtain ⟨hLQ1, hLQ2⟩ := hLQ
  have hL8 : 12 < L := by omega
  have hbL : a + L ≤ d.size := by omega
  have HL := Lib.hid hL
  have HS : Hid (PivRel w blk off w.heap.size d 0 (w.alloc (.cells #[.int .i64 0] 3))) := ⟨(RowAt.start hH).alloc _, by simp, by simp⟩
  have A : Hid (∀ S x W, PivRel w blk off w.heap.size d S W → 0 < x → x + 1 < d.size → S ≤ 900 → Calls Try.prog 55 #[.slice (some ⟨blk, off, none⟩) d.size cap, .int .i64 x, .pointer (some ⟨w.heap.size, 0, none⟩)] W fun e w' =>
      ∃ m S' : Nat, e = .returned (.int .i64 m) ∧ x ≤ m + 1 ∧ m ≤ x + 1 ∧ S' ≤ S + 3 ∧ PivRel w blk off w.heap.size d S' w') :=
    fun S x W hW h1 h2 h3 => adjacent_any w blk off cap w.heap.size d S x W hH hbk (Nat.le_refl _) hW h1 h2 h3 hsz
  have C : Hid (∀ S x y z W, PivRel w blk off w.heap.size d S W → x < d.size → y < d.size → z < d.size → S ≤ 900 → Calls Try.prog 56 #[.slice (some ⟨blk, off, none⟩) d.size cap, .int .i64 x, .int .i64 y, .int .i64 z, .pointer (some ⟨w.heap.size, 0, none⟩)] W fun e w' =>
      ∃ m S' : Nat, e = .returned (.int .i64 m) ∧ (m = x ∨ m = y ∨ m = z) ∧ S' ≤ S + 3 ∧ PivRel w blk off w.heap.size d S' w') :=
    fun S x y z W hW h1 h2 h3 h4 => median_any w blk off cap w.heap.size d S x y z W hH hbk (Nat.le_refl _) hW h1 h2 h3 h4 hsz
  clear hH hL hQ
  go_enter Try.func44, Try.ntmps44
  go_upto_if 34 with fail
  go_cut [10, 11, 12] from 13 (fun vi vj vk wx => ∃ i j k S : Nat, vi = .int .i64 i ∧ vj = .int .i64 j ∧ vk = .int .i64 k ∧ a ≤ i ∧ i < b ∧ a ≤ j ∧ j < b ∧ a ≤ k ∧ k < b ∧ S ≤ 9 ∧ Hid (PivRel w blk off w.heap.size d S wx))
  case first =>
    by_cases h50 : 50 ≤ L
    · go_wp2_with fail
      have c1 := A.out 0 (a + Q) _ HS.out (by omega) (by omega) (by omega)
      rw [show ((a + Q : Nat) : Int) = (a : Int) + (Q : Int) by omega] at c1
      go_fit c1
      rintro e w1 ⟨i, S1, rfl, hi1, hi2, hS1, hw1⟩
      have HP1 := Lib.hid hw1
      clear c1 hw1
      go_wp2_with fail
      have c1 := A.out S1 (a + Q * 2) _ HP1.out (by omega) (by omega) (by omega)
      rw [show ((a + Q * 2 : Nat) : Int) = (a : Int) + (Q : Int) * 2 by omega] at c1
      go_fit c1
      rintro e w2 ⟨j, S2, rfl, hj1, hj2, hS2, hw2⟩
      have HP2 := Lib.hid hw2
      clear c1 hw2
      go_wp2_with fail
      have c1 := A.out S2 (a + Q * 3) _ HP2.out (by omega) (by omega) (by omega)
      rw [show ((a + Q * 3 : Nat) : Int) = (a : Int) + (Q : Int) * 3 by omega] at c1
      go_fit c1
      rintro e w3 ⟨k, S3, rfl, hk1, hk2, hS3, hw3⟩
      have HP3 := Lib.hid hw3
      clear c1 hw3
      go_wp2_with fail
      go_meet
      case rel =>
        have hbL' := HL.out
        exact ⟨i, j, k, S3, rfl, rfl, rfl, by omega, by omega, by omega, by omega, by omega, by omega, by omega, HP3⟩
    · go_wp2_with fail
      go_meet
      case rel =>
        have hbL' := HL.out
        exact ⟨a + Q, a + Q * 2, a + Q * 3, 0, by congr 1 <;> omega, by congr 1 <;> omega, by congr 1 <;> omega, by omega, by omega, by omega, by omega, by omega, by omega, by omega, HS⟩
  case rest =>
    obtain ⟨i, j, k, S, rfl, rfl, rfl, hi1, hi2, hj1, hj2, hk1, hk2, hS, HP⟩ := hcut
    go_wp2_with fail
    refine (C.out S i j k wc HP.out (by omega) (by omega) (by omega) (by omega)).mono ?_
    rintro e w1 ⟨m, S1, rfl, hm, hS1, hw1⟩
    have HP1 := Lib.hid hw1
    obtain ⟨hr, hc, hf⟩ := hw1
    have hm1 : a ≤ m := by omega
    have hm2 : m < b := by omega
    clear hr hm
    go_wp2
    · go_ret2
      exact ⟨m, 1, rfl, hm1, hm2, by omega, HP1.out.1⟩
    · go_ret2
      exact ⟨m, 2, rfl, hm1, hm2, by omega, HP1.out.1⟩
    · go_ret2
      exact ⟨m, 0, rfl, hm1, hm2, by omega, HP1.out.1⟩
end Go.Proofs.Ytbebnhadgbkepaa
