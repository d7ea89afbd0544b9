/- side's others and Normal. -/
import Derived.Test.YtbankocbncpepaaPk19
namespace Go.Proofs.Ytbankocbncpepaa.Sd
open Go.RowKit Go.ChangeShapes EdPure NtPure CutPure SdPure Cm
/-- What is left of a side at v: those from v on. -/
def RestOf (l : List Int) (v : Int) (R : List Int) : Prop := R.Pairwise (· < ·) ∧ (∀ x ∈ R, v ≤ x) ∧ ∀ x, v ≤ x → (x ∈ l ↔ x ∈ R)
theorem rest_start {n : Int} {l : List Int} (h : RightS n l) : RestOf l 0 l := ⟨h.2, fun x hx => (h.1 x hx).1, fun _ _ => Iff.rfl⟩
theorem rest_take {l R : List Int} {v : Int} (h : RestOf l v (v :: R)) : inS l v = true ∧ RestOf l (v + 1) R := by
  obtain ⟨h1, h2, h3⟩ := h
  rw [List.pairwise_cons] at h1
  refine ⟨inS_iff.2 ((h3 v (Int.le_refl _)).2 (by simp)), h1.2, fun x hx => by have := h1.1 x hx; omega, fun x hx => ?_⟩
  rw [h3 x (by omega), List.mem_cons]
  exact ⟨fun e => e.elim (fun e => by omega) id, Or.inr⟩
theorem rest_skip {l R : List Int} {v : Int} (h : RestOf l v R) (hv : R.head? ≠ some v) : inS l v = false ∧ RestOf l (v + 1) R := by
  obtain ⟨h1, h2, h3⟩ := h
  have hn : v ∉ R := by
    cases R with
    | nil => simp
    | cons y R =>
      rw [List.pairwise_cons] at h1
      have hy := h2 y (by simp)
      have hne : y ≠ v := fun e => hv (by rw [e]; rfl)
      intro hm
      rcases List.mem_cons.1 hm with e | e
      · exact hne e.symm
      · have := h1.1 v e; omega
  refine ⟨Bool.eq_false_iff.2 (fun e => hn ((h3 v (Int.le_refl _)).1 (inS_iff.1 e))), h1, fun x hx => ?_, fun x hx => h3 x (by omega)⟩
  have := h2 x hx
  rcases Int.lt_or_eq_of_le this with e | e
  · omega
  · subst e; exact absurd hx hn
theorem right_few {n : Nat} {l : List Int} (h : RightS n l) : l.length ≤ n := by
  have key : ∀ (l : List Int) (m : Int), (∀ x ∈ l, m ≤ x ∧ x < n) → l.Pairwise (· < ·) → (l.length : Int) ≤ max ((n : Int) - m) 0 := by
    intro l
    induction l with
    | nil => intro m _ _; simp; omega
    | cons x l ih =>
      intro m h1 h2
      rw [List.pairwise_cons] at h2
      have hx := h1 x (by simp)
      have := ih (x + 1) (fun y hy => ⟨by have := h2.1 y hy; omega, (h1 y (by simp [hy])).2⟩) h2.2
      rw [List.length_cons]
      omega
  have := key l 0 h.1 h.2
  omega
/-- One on, in memory. -/
theorem reads_tail {M : Nat} {w : World} {b off : Nat} {x : Int} {R : List Int} (h : ReadsL encZ M w (some ⟨b, off, none⟩) (x :: R)) : ReadsL encZ M w (some ⟨b, off + 1, none⟩) R := by
  rcases h with h | ⟨b', off', he, hb, hc⟩
  · cases h
  · cases he
    refine Or.inr ⟨b, off + 1, rfl, hb, fun i hi => ?_⟩
    have := hc (i + 1) (by simpa using hi)
    rw [show off + (i + 1) = off + 1 + i by omega] at this
    exact this
theorem make_few (c : Nat) (hc : c ≤ 1000000) (w : World) :
    (Instr.makeSlice 23 (.int .i64 0) (.int .i64 (c : Int))).run Try.prog w = .ok (.slice (some ⟨w.heap.size, 0, none⟩) 0 c) (w.alloc (.cells (madeCells #[.int .i64 0] c) 3)) := by
  obtain ⟨i, h1, h2, h3, h4⟩ := info_int
  rw [run_make w 23 3 i _ Try.underlying23 h1 h2 .i64 .i64 0 c (by omega) (by omega) (by rw [h4]; omega) (by omega)]
  rw [h3]
  simp [Value.cells]
theorem slice_one (b off ln c : Nat) (h : 1 ≤ ln) (wx : World) :
    (Instr.sliceAt 23 (.slice (some ⟨b, off, none⟩) ln c) (some (.int .i64 1)) none none).run Try.prog wx = .ok (.slice (some ⟨b, if c = 1 then off else off + 1, none⟩) (ln - 1) (c - 1)) wx := by
  have he : Try.prog.elem 23 = 3 := by kernel_rfl
  have hu : Try.prog.underlying 23 = some (.slice (Try.prog.elem 23)) := by rw [he]; exact Try.underlying23
  obtain ⟨i, h1, -, h3, -⟩ := info_of (P := Try.prog) (T := 3) (z := .int .i64 0) (a := 1) (b := 8) (by kernel_rfl)
  rw [run_sliceAt_slice _ _ _ _ _ _ hu, run_slice_any _ _ _ _ _ hu]
  have hr : (1 : Int) ≤ (ln : Int) := by omega
  simp [Instr.sliceBounds, run_sliceBound, Result.andThen, sliced, sizeOf, typeInfo, h1, h3, Addr.add, he, hr]
  split <;> rfl
/-- What is left of the side, where the loop's variable has it (in what lay there ahead). -/
def RsSt (l : List Int) (k : Nat) (a : Option Addr) (c : Nat) (R : List Int) (w : World) : Prop := ReadsL encZ w.heap.size w a R ∧ R.length ≤ c ∧ RestOf l k R
set_option maxRecDepth 100000 in
set_option maxHeartbeats 2000000 in
theorem othersO_any (n : Nat) (hn : n ≤ 100000) (b : Option Addr) (d : Nat) (l : List Int) (hd : l.length ≤ d) (hl : RightS n l) (w : World) (hS : ReadsL encZ w.heap.size w b l) :
    Calls Try.prog 32 #[.int .i64 (n : Int), .slice b l.length d] w fun e w' => OwnI (othL l n) w e w' := by
  have hfew := right_few hl
  have hmk := make_few (n - l.length) (by omega) w
  rw [show ((n - l.length : Nat) : Int) = (n : Int) - (l.length : Int) by omega] at hmk
  have HS : Hid (RsSt l 0 b d l w) := Lib.hid ⟨hS, hd, rest_start hl⟩
  have HG : Hid (GrowRel encZ 3 w (othL l 0) (.slice (some ⟨w.heap.size, 0, none⟩) 0 (n - l.length)) (w.alloc (.cells (madeCells #[.int .i64 0] (n - l.length)) 3))) :=
    Lib.hid ⟨(Below.refl _ _).alloc (Nat.le_refl _) _, World.ownsRow_made w _ _ (Nat.le_refl _) (by unfold maxLen; omega) (by rw [size_madeCells]; simp)⟩
  have HF := Lib.hid hfew
  obtain ⟨ti, hi1, hi2, hi3, hi4⟩ := info_int
  clear hS hl hd
  go_enter Try.func32, Try.ntmps32
  go_wp2
  go_loopw [1, 5, 13] (fun s v i wr => ∃ (k : Nat) (a : Option Addr) (c : Nat) (R : List Int) (u : Value), s = .slice a R.length c ∧ u = v ∧ i = .int .i64 k ∧ k ≤ n ∧ Hid (RsSt l k a c R w) ∧ Hid (GrowRel encZ 3 w (othL l k) u wr)) (fun _ _ i _ => n - (intOf i).toNat)
  case atStart => exact ⟨0, _, _, l, _, rfl, rfl, rfl, Nat.zero_le _, HS, HG⟩
  case round =>
    obtain ⟨k, a, c, R, v, rfl, rfl, rfl, hk, HK, HV⟩ := hrel
    clear HS HG hmk hfew
    have hsz := HV.out.1.size
    by_cases hlt : k < n
    · have i1 : (k : Int) < (n : Int) := by omega
      have HO : Hid (othL l (k + 1) = othL l k ++ (if inS l (k : Int) = true then [] else [(k : Int)])) := Lib.hid rfl
      have hlen := oth_len l k
      have skip : R.head? ≠ some (k : Int) → Hid (othL l (k + 1) = othL l k ++ [(k : Int)] ∧ RestOf l ((k + 1 : Nat) : Int) R) := fun h => by
        obtain ⟨h1, h2⟩ := rest_skip HK.out.2.2 h
        exact Lib.hid ⟨by rw [HO.out, h1, if_neg (by decide)], by rw [Int.natCast_add]; exact h2⟩
      cases R with
      | nil =>
        have HX := skip (by simp)
        clear skip HO
        generalize othL l k = xs at *
        go_wp2_with (first
          | (at_builtin; refine wpList_append_own _ rfl _ _ 23 rfl w.heap.size 3 ti (.int .i64 0) 1 8 Try.underlying23 hi1 hi2 hi3 hi4 rfl (by decide) v xs.length (xs.map encZ) rfl (HV.out.2.alloc _) ⟨wr.heap.size, 0, none⟩ 1 1 [.int .i64 (k : Int)] rfl rfl one_news (by intro u hu; simp at hu; subst hu; rfl) (by unfold maxLen; omega) (by omega) (by simp; omega) ?_; intro v' w6 hown6 hg6 _; have hst := HV.out.step (k : Int) hown6 hg6; rw [← HX.out.1] at hst; have HS6 := Lib.hid hst; clear hst hown6 hg6))
        have HR6 : Hid (RsSt l (k + 1) a c [] w) := Lib.hid ⟨ReadsL.nil _ _ _ _, HK.out.2.1, HX.out.2⟩
        go_roundw
        case rel => exact ⟨k + 1, a, c, [], v', rfl, rfl, by go_num, hlt, HR6, HS6⟩
        case measure => simp [intOf]; omega
      | cons y R =>
        obtain ⟨bb, off, rfl, hbN, c0⟩ := HK.out.1.at (k := 0) (by simp)
        have c1 : wr.cell? ⟨bb, off, none⟩ = some (.int .i64 y) := (HV.out.1.cell (p := ⟨bb, off, none⟩) hbN).trans c0
        clear c0
        have i2 : (0 : Int) < ((y :: R).length : Int) := by simp
        have i3 : (0 : Int) ≤ 0 := by omega
        have hlc := HK.out.2.1
        have t0 : decide (((y :: R).length : Int) > 0) = true := by simp
        have t00 : decide (0 < ((y :: R).length : Int)) = true := by simp
        by_cases hy : y = (k : Int)
        · have HX : Hid (othL l (k + 1) = othL l k ∧ RestOf l ((k + 1 : Nat) : Int) R) := Lib.hid (by
            have := HK.out.2.2
            rw [hy] at this
            obtain ⟨h1, h2⟩ := rest_take this
            exact ⟨by rw [HO.out, h1, if_pos rfl, List.append_nil], by rw [Int.natCast_add]; exact h2⟩)
          have t1 : (y == (k : Int)) = true := by simpa using hy
          have hsl := slice_one bb off (y :: R).length c (by simp)
          have HR6 : Hid (RsSt l (k + 1) (some ⟨bb, if c = 1 then off else off + 1, none⟩) (c - 1) R w) := Lib.hid (by
            refine ⟨?_, by simp at hlc; omega, HX.out.2⟩
            by_cases e : c = 1
            · have : R = [] := by
                subst e
                cases R with
                | nil => rfl
                | cons z R => simp at hlc
              subst this
              exact ReadsL.nil _ _ _ _
            · rw [if_neg e]
              exact reads_tail HK.out.1)
          generalize (if c = 1 then off else off + 1) = off' at *
          have HS6 : Hid (GrowRel encZ 3 w (othL l (k + 1)) v wr) := by rw [HX.out.1]; exact HV
          have hll : (y :: R).length - 1 = R.length := by simp
          rw [hll] at hsl
          clear skip HO hy hll HX
          generalize (y :: R).length = L at *
          go_wp2
          go_roundw
          case rel => exact ⟨k + 1, _, _, R, v, rfl, rfl, by go_num, hlt, HR6, HS6⟩
          case measure => simp [intOf]; omega
        · have HX := skip (by simpa using hy)
          have t1 : (y == (k : Int)) = false := by simpa using hy
          clear skip HO hy
          generalize othL l k = xs at *
          generalize hL : y :: R = RR at *
          clear hL
          go_wp2_with (first
            | (at_builtin; refine wpList_append_own _ rfl _ _ 23 rfl w.heap.size 3 ti (.int .i64 0) 1 8 Try.underlying23 hi1 hi2 hi3 hi4 rfl (by decide) v xs.length (xs.map encZ) rfl (HV.out.2.alloc _) ⟨wr.heap.size, 0, none⟩ 1 1 [.int .i64 (k : Int)] rfl rfl one_news (by intro u hu; simp at hu; subst hu; rfl) (by unfold maxLen; omega) (by omega) (by simp; omega) ?_; intro v' w6 hown6 hg6 _; have hst := HV.out.step (k : Int) hown6 hg6; rw [← HX.out.1] at hst; have HS6 := Lib.hid hst; clear hst hown6 hg6))
          have HR6 : Hid (RsSt l (k + 1) (some ⟨bb, off, none⟩) c RR w) := Lib.hid ⟨HK.out.1, HK.out.2.1, HX.out.2⟩
          go_roundw
          case rel => exact ⟨k + 1, _, c, RR, v', rfl, rfl, by go_num, hlt, HR6, HS6⟩
          case measure => simp [intOf]; omega
    · obtain rfl : k = n := by omega
      obtain ⟨p, cp, rfl, -⟩ := HV.out.reads
      have HKK := HV
      clear HV
      go_wp2
      go_ret
      exact ⟨HKK.out.1, _, rfl, HKK.out.2⟩
set_option maxRecDepth 100000 in
set_option maxHeartbeats 2000000 in
theorem sideNormal_any (n : Nat) (hn : n ≤ 4096) (b : Option Addr) (d : Nat) (l : List Int) (hl : l.length ≤ 100000) (hd : l.length ≤ d) (w : World) (hS : ReadsL encZ w.heap.size w b l) :
    Calls Try.prog 13 #[.int .i64 (n : Int), .slice b l.length d] w fun e w' => SideL (if chkS (n : Int) l = 0 then normL (n : Int) l else []) (chkS (n : Int) l) w e w' := by
  have HC := Lib.hid (checkD_any (n : Int) b d l (by omega) w hS)
  by_cases hk : chkS (n : Int) l = 0
  · rw [if_pos hk, hk]
    rw [hk] at HC
    obtain ⟨h1, h2, h3⟩ := chkS_ok hk
    have HR := Lib.hid h1
    obtain ⟨y, R, rfl⟩ := List.exists_cons_of_ne_nil h2
    obtain ⟨bb, off, rfl, hbN, c0⟩ := hS.at (k := 0) (by simp)
    have hc : ∀ m, (w.drewN m).cell? ⟨bb, off, none⟩ = some (.int .i64 y) := fun m => c0
    have HCl := Lib.hid hc
    have i2 : (0 : Int) < ((y :: R).length : Int) := by simp
    have HS := Lib.hid hS
    have hy0 := (h1.1 y (by simp)).1
    clear hS h3 c0 hc
    by_cases hy : y = 0
    · have HX : Hid (normL (n : Int) (y :: R) = othL (y :: R) n) := Lib.hid (by
        unfold normL
        rw [if_pos (inS_iff.2 (by rw [hy]; simp)), Int.toNat_natCast])
      rw [HX.out]
      have hfew := right_few h1
      have t1 : (y != 0) = false := by simp [hy]
      have HO := Lib.hid (fun m => othersO_any n (by omega) (some ⟨bb, off, none⟩) d (y :: R) hd h1 (w.drewN m) HS.out)
      have t2 : decide (((n : Int) - ((y :: R).length : Int)) > 268435455) = false := decide_eq_false (by omega)
      have t3 : decide (268435455 < ((n : Int) - ((y :: R).length : Int))) = false := decide_eq_false (by omega)
      clear hk h1 h2 hy
      generalize othL (y :: R) n = xs at *
      generalize hL : y :: R = RR at *
      go_enter Try.func13, Try.ntmps13
      go_wp2_with fail
      refine HC.out.mono ?_
      rintro e w1 ⟨rfl, m, rfl⟩
      have c1 := HCl.out m
      go_wp2_with fail
      refine (HO.out m).mono ?_
      rintro e w2 ⟨hb, v, rfl, ho⟩
      obtain ⟨p, cc, rfl, hr, -⟩ := owns_readsL rfl ho
      have HB := Lib.hid hb
      have HRR := Lib.hid hr
      clear hb hr ho
      go_wp2
      go_ret2
      exact ⟨(below_drewN (Below.refl _ _) m).trans HB.out, p, cc, rfl, HRR.out⟩
    · have HX : Hid (normL (n : Int) (y :: R) = y :: R) := Lib.hid (by
        unfold normL
        rw [if_neg]
        rw [inS_iff]
        intro e
        rcases List.mem_cons.1 e with e | e
        · exact hy e.symm
        · have := (List.pairwise_cons.1 h1.2).1 0 e; omega)
      rw [HX.out]
      have t1 : (y != 0) = true := by simpa using hy
      have HCo := Lib.hid (fun m => cloneI_any (some ⟨bb, off, none⟩) d (y :: R) (by omega) (w.drewN m) HS.out)
      clear hk h1 h2 hy
      generalize hL : y :: R = RR at *
      go_enter Try.func13, Try.ntmps13
      go_wp2_with fail
      refine HC.out.mono ?_
      rintro e w1 ⟨rfl, m, rfl⟩
      have c1 := HCl.out m
      go_wp2_with fail
      refine (HCo.out m).mono ?_
      rintro e w2 ⟨hb, q, cc, rfl, hr⟩
      have HB := Lib.hid hb
      have HRR := Lib.hid hr
      clear hb hr
      go_wp2
      go_ret2
      exact ⟨(below_drewN (Below.refl _ _) m).trans HB.out, q, cc, rfl, HRR.out⟩
  · rw [if_neg hk]
    have t : (chkS (n : Int) l != 0) = true := by simpa using hk
    clear hk hS
    generalize chkS (n : Int) l = z at *
    go_enter Try.func13, Try.ntmps13
    go_wp2_with fail
    refine HC.out.mono ?_
    rintro e w1 ⟨rfl, m, rfl⟩
    go_wp2
    go_ret2
    exact ⟨below_drewN (Below.refl _ _) m, none, 0, rfl, ReadsL.nil _ _ _ _⟩
end Go.Proofs.Ytbankocbncpepaa.Sd
