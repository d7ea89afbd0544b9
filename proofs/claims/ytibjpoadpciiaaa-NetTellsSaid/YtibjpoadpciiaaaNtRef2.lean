/- The document's Degree, Near and Total of a graph. -/
import Derived.Test.YtibjpoadpciiaaaNtRef1
namespace Go.Proofs.Ytibjpoadpciiaaa
open Go.RowKit Go.ChangeShapes EdPure NtPure NumPure
/-- Over a loop: what was made so far beside the graph. -/
def LpSt (w : World) (n : Int) (a : Option Addr) (c : Nat) (M : List Ed) (wr : World) : Prop := Below w.heap.size w wr ∧ RnAt w.heap.size n a c M wr
theorem LpSt.keep {w wr w' : World} {n : Int} {a : Option Addr} {c : Nat} {M : List Ed} (h : LpSt w n a c M wr) (hb : Below wr.heap.size wr w') : LpSt w n a c M w' := ⟨h.1.trans (hb.mono h.1.size), h.2.keep hb⟩
theorem LpSt.box {w : World} {n : Int} {a : Option Addr} {c : Nat} {M : List Ed} (h : ReadsE w.heap.size w a M) : LpSt w n a c M (w.alloc (.cells #[.int .i64 n, .slice a M.length c] 30)) := ⟨(Below.refl _ _).alloc (Nat.le_refl _) _, RnAt.box h⟩
theorem sum_rng {n : Nat} {M : List Ed} (h : GoodN n M) (v : Int) {k : Nat} (hk : k ≤ n) : 0 ≤ sumN (fun u => weiE M u v) k ∧ sumN (fun u => weiE M u v) k ≤ 2251799813685248 := by
  have h0 : ∀ u, 0 ≤ weiE M u v := fun u => (wei_rng h u v).1
  have h1 := sumN_mono h0 hk
  have h2 := deg_sum h v
  have h3 := (deg_rng h.non v).2
  have h4 := h.2.2
  exact ⟨sumN_pos h0 k, by omega⟩
set_option maxRecDepth 100000 in
theorem refDegree_any (n : Nat) (a : Option Addr) (c : Nat) (M : List Ed) (hM : GoodN n M) (hn : n ≤ 4096) (hl : M.length ≤ 1048576) (v : Int) (w : World) (hR : ReadsE w.heap.size w a M) :
    Calls Try.prog 17 #[.agg #[.int .i64 (n : Int), .slice a M.length c], .int .i64 v] w fun e w' => e = .returned (.int .i64 (degE M v)) ∧ Below w.heap.size w w' := by
  have HN : Hid (LpSt w n a c M (w.alloc (.cells #[.int .i64 (n : Int), .slice a M.length c] 30))) := Lib.hid (LpSt.box hR)
  have HS := Lib.hid (fun k (hk : k ≤ n) => sum_rng hM v hk)
  have HD : Hid (sumN (fun u => weiE M u v) n = degE M v) := Lib.hid (deg_sum hM v)
  have HM := Lib.hid hM
  clear hR hM
  go_enter Try.func17, Try.ntmps17
  go_wp2
  generalize w.alloc (.cells #[.int .i64 (n : Int), .slice a M.length c] 30) = W at *
  go_loopw [5, 6] (fun s i wr => ∃ k : Nat, s = .int .i64 (sumN (fun u => weiE M u v) k) ∧ i = .int .i64 k ∧ k ≤ n ∧ Hid (LpSt w n a c M wr)) (fun _ i _ => n - (intOf i).toNat)
  case atStart => exact ⟨0, rfl, rfl, Nat.zero_le _, HN⟩
  case round =>
    obtain ⟨k, rfl, rfl, hk, HK⟩ := hrel
    clear HN
    have i0 : (0 : Int) ≤ (k : Int) := by omega
    obtain ⟨d0, d1, -, -⟩ := HK.out.2.1
    have dl := HK.out.2.1.lt
    by_cases hlt : k < n
    · have i1 : (k : Int) < (n : Int) := by omega
      have hs := HS.out (k + 1) hlt
      have hw := wei_rng HM.out (k : Int) v
      have e : sumN (fun u => weiE M u v) (k + 1) = sumN (fun u => weiE M u v) k + weiE M k v := rfl
      have HE := Lib.hid e
      have HC := Lib.hid (fun W h => refWeight_any (n : Int) a c M hl (k : Int) v W h)
      rw [e] at hs
      have hs0 := (HS.out k hk).1
      clear e
      generalize sumN (fun u => weiE M u v) k = s at *
      obtain ⟨y, hy⟩ : ∃ y, weiE M (k : Int) v = y := ⟨_, rfl⟩
      rw [hy] at hs hw HE HC
      have hw0 := hw.1
      have hs1 := hs.2
      clear hw hs hy
      go_wp2_with (first | (go_at_call 15; refine (HC.out _ HK.out.2.2).mono ?_; rintro e w1 ⟨rfl, hb1⟩; have HK1 := Lib.hid (HK.out.keep hb1); clear hb1))
      go_roundw
      case rel => exact ⟨k + 1, by rw [HE.out], by go_num, hlt, HK1⟩
      case measure => (simp [intOf]; omega)
    · have hk' : k = n := by omega
      subst hk'
      rw [HD.out]
      go_wp2
      go_ret
      exact ⟨rfl, HK.out.1⟩
set_option maxRecDepth 100000 in
theorem refNear_any (n : Nat) (a : Option Addr) (c : Nat) (M : List Ed) (hM : GoodN n M) (hn : n ≤ 4096) (hl : M.length ≤ 1048576) (v : Int) (w : World) (hR : ReadsE w.heap.size w a M) :
    Calls Try.prog 20 #[.agg #[.int .i64 (n : Int), .slice a M.length c], .int .i64 v] w fun e w' => IntsOut (nearE M v) w e w' := by
  have HN : Hid (LpSt w n a c M (w.alloc (.cells #[.int .i64 (n : Int), .slice a M.length c] 30))) := Lib.hid (LpSt.box hR)
  have HM := Lib.hid hM
  have HL := Lib.hid (fun k => nearN_len M v k)
  have HE := Lib.hid (near_eq hM v)
  obtain ⟨ti, hi1, hi2, hi3, hi4⟩ := info_parts (show (Try.prog.info? 3).map (fun i => (i.zero, i.size, i.bytes)) = some (some (.int .i64 0), 1, 8) by kernel_rfl)
  have HG : Hid (GrowRel encZ 3 (w.alloc (.cells #[.int .i64 (n : Int), .slice a M.length c] 30)) ([] : List Int) (.slice none 0 0) (w.alloc (.cells #[.int .i64 (n : Int), .slice a M.length c] 30))) := Lib.hid (GrowRel.start _ _ _)
  clear hR hM
  go_enter Try.func20, Try.ntmps20
  go_wp2
  generalize w.alloc (.cells #[.int .i64 (n : Int), .slice a M.length c] 30) = W at *
  go_loopw [5, 6] (fun s i wr => ∃ k : Nat, i = .int .i64 k ∧ k ≤ n ∧ Hid (GrowRel encZ 3 W (nearN M v k) s wr)) (fun _ i _ => n - (intOf i).toNat)
  case atStart => exact ⟨0, rfl, Nat.zero_le _, HG⟩
  case round =>
    obtain ⟨k, rfl, hk, HK⟩ := hrel
    clear HG
    have i0 : (0 : Int) ≤ (k : Int) := by omega
    have HP := Lib.hid (HN.out.keep HK.out.1)
    obtain ⟨d0, d1, -, -⟩ := HP.out.2.1
    have dl := HP.out.2.1.lt
    by_cases hlt : k < n
    · have i1 : (k : Int) < (n : Int) := by omega
      have HC := Lib.hid (fun W h => refWeight_any (n : Int) a c M hl (k : Int) v W h)
      have hll := HL.out k
      by_cases hy : 0 < weiE M (k : Int) v
      · have HU : Hid (nearN M v (k + 1) = nearN M v k ++ [(k : Int)]) := Lib.hid (by show nearN M v k ++ _ = _; rw [if_pos hy])
        generalize weiE M (k : Int) v = y at *
        generalize nearN M v k = xs at *
        go_wp2_with fail
        refine (HC.out _ HP.out.2.2).mono ?_
        rintro e w1 ⟨rfl, hb1⟩
        have HK1 := Lib.hid (HK.out.on hb1)
        clear hb1 HK HP d0 d1 dl
        go_wp2_with (first
          | (at_builtin; refine wpList_append_own_at _ rfl _ _ 44 rfl W.heap.size 3 ti (.int .i64 0) 1 8 Try.underlying44 hi1 hi2 hi3 hi4 rfl (by decide) u5 xs.length (xs.map encZ) rfl (HK1.out.2.alloc _) ⟨w1.heap.size, 0, none⟩ 1 1 [.int .i64 (k : Int)] rfl rfl one_news (by intro u hu; simp at hu; subst hu; rfl) (by unfold maxLen; omega) (by omega) (by have := HK1.out.1.size; simp; omega) ?_; intro v' w6 hown6 hg6 _ _; have hst := HK1.out.step (k : Int) hown6 hg6; rw [← HU.out] at hst; have HS6 := Lib.hid hst; clear hst hown6 hg6)
          | go_in)
        go_roundw
        case rel => exact ⟨k + 1, by go_num, hlt, HS6⟩
        case measure => (simp [intOf]; omega)
      · have HU : Hid (nearN M v (k + 1) = nearN M v k) := Lib.hid (by show nearN M v k ++ _ = _; rw [if_neg hy, List.append_nil])
        have hy2 : ¬ (weiE M (k : Int) v > 0) := hy
        generalize weiE M (k : Int) v = y at *
        go_wp2_with (first | (go_at_call 15; refine (HC.out _ HP.out.2.2).mono ?_; rintro e w1 ⟨rfl, hb1⟩; have HK1 := Lib.hid (HK.out.on hb1); clear hb1))
        go_roundw
        case rel => exact ⟨k + 1, by go_num, hlt, by rw [HU.out]; exact HK1⟩
        case measure => (simp [intOf]; omega)
    · have hk' : k = n := by omega
      subst hk'
      rw [HE.out] at HK
      obtain ⟨q, cap, rfl, hr, -⟩ := HK.out.reads
      have HR := Lib.hid hr
      clear hr
      go_wp2
      go_ret
      exact ⟨HP.out.1, q, cap, rfl, HR.out⟩
set_option maxRecDepth 100000 in
theorem refTotalN_any (n : Nat) (a : Option Addr) (c : Nat) (M : List Ed) (hM : GoodN n M) (hl : M.length ≤ 1048576) (w : World) (hR : ReadsE w.heap.size w a M) :
    Calls Try.prog 22 #[.agg #[.int .i64 (n : Int), .slice a M.length c]] w fun e w' => e = .returned (.int .i64 (allW M)) ∧ Below w.heap.size w w' := by
  have HN : Hid (LpSt w n a c M (w.alloc (.cells #[.int .i64 (n : Int), .slice a M.length c] 30))) := Lib.hid (LpSt.box hR)
  have HS : Hid (∀ k, k ≤ M.length → 0 ≤ allW (M.take k) ∧ allW (M.take k) ≤ 2251799813685248) := Lib.hid fun k _ => by
    have h1 := allW_pos (l := M.take k) (fun e he => hM.non e (List.mem_of_mem_take he))
    have h2 := allW_pos (l := M.drop k) (fun e he => hM.non e (List.mem_of_mem_drop he))
    have h3 : allW M = allW (M.take k) + allW (M.drop k) := by rw [← allW_append, List.take_append_drop]
    have := hM.2.2
    omega
  have HM := Lib.hid hM
  clear hR hM
  go_enter Try.func22, Try.ntmps22
  go_wp2
  generalize w.alloc (.cells #[.int .i64 (n : Int), .slice a M.length c] 30) = W at *
  go_loopw [3, 4] (fun s i wr => ∃ k : Nat, s = .int .i64 (allW (M.take k)) ∧ i = .int .i64 k ∧ k ≤ M.length ∧ wr = W) (fun _ i _ => M.length - (intOf i).toNat)
  case atStart => exact ⟨0, rfl, rfl, Nat.zero_le _, rfl⟩
  case round =>
    obtain ⟨k, rfl, rfl, hk, rfl⟩ := hrel
    have i0 : (0 : Int) ≤ (k : Int) := by omega
    obtain ⟨d0, d1, -, -⟩ := HN.out.2.1
    have dl := HN.out.2.1.lt
    by_cases hlt : k < M.length
    · have i1 : (k : Int) < (M.length : Int) := by omega
      obtain ⟨p, q, x, he⟩ : ∃ p q x, M[k] = (p, q, x) := ⟨_, _, _, rfl⟩
      obtain ⟨b, off, rfl, hbw, hbr, c0, c1, c2⟩ := HN.out.2.2.cells hlt (Below.refl _ _) he
      have e : allW (M.take (k + 1)) = allW (M.take k) + x := by rw [take_snoc _ _ hlt, allW_append, he]; simp [allW]
      have HE := Lib.hid e
      have h1 := (HS.out (k + 1) hlt)
      rw [e] at h1
      have h2 := h1.1
      have h3 := h1.2
      clear e he h1
      generalize allW (M.take k) = s at *
      go_wp2
      go_roundw
      case rel => exact ⟨k + 1, by rw [HE.out], by go_num, hlt, trivial⟩
      case measure => (simp [intOf]; omega)
    · have hk' : k = M.length := by omega
      subst hk'
      have HE : Hid (allW (M.take M.length) = allW M) := Lib.hid (by rw [List.take_length])
      rw [HE.out]
      go_wp2
      go_ret
      exact ⟨rfl, HN.out.1⟩
end Go.Proofs.Ytibjpoadpciiaaa
