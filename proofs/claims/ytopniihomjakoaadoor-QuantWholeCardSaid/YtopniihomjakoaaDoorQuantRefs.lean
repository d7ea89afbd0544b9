/- Contracts of the document's Scale and Step, of Same at numbers, and of what makes floats of words. -/
import Derived.Test.YtopniihomjakoaaDoorQuantRef
namespace Go.Proofs.YtopniihomjakoaaDoor
open Go.RowKit Go.ChangeShapes FbitPure QuantPure
theorem info_int64 : (Tryd.prog.info? 2).map (fun i => (i.zero, i.size, i.bytes)) = some (some (.int .i64 0), 1, 8) := by kernel_rfl
theorem info_float : (Tryd.prog.info? 48).map (fun i => (i.zero, i.size, i.bytes)) = some (some (.float .f64 0), 1, 8) := by kernel_rfl
theorem info_uint64 : (Tryd.prog.info? 46).map (fun i => (i.zero, i.size, i.bytes)) = some (some (.int .u64 0), 1, 8) := by kernel_rfl
/-- What the document's Scale tells. -/
def RScaleOut (K : Int) (l : List Nat) (e : Ending) (w' : World) : Prop :=
  ∃ p c, e = .returned (.agg #[.slice p (cnts K l).length c, .int .i64 (errAt (cntE K) l), .int .i64 (plcAt (cntE K) l)]) ∧ ReadsL (encInt .i64) w'.heap.size w' p (cnts K l)
/-- At the head of a round of the document's Scale. -/
def RScaleRel (N : Nat) (w0 : World) (l : List Nat) (K : Int) (k : Nat) (v : Value) (w : World) : Prop :=
  k ≤ firstBad (cntE K) l ∧ GrowRel (encC K) 2 w0 (l.take k) v w ∧ ThreeAt N w (.slice none 0 0) (.int .i64 0) (.int .i64 0) ∧ N < w0.heap.size
theorem RScaleRel.on {N : Nat} {w0 w w' : World} {l : List Nat} {K : Int} {k : Nat} {v : Value} (h : RScaleRel N w0 l K k v w) (hb : Below w.heap.size w w') : RScaleRel N w0 l K k v w' :=
  ⟨h.1, h.2.1.on hb, h.2.2.1.on hb h.2.2.1.lt, h.2.2.2⟩
theorem RScaleRel.step {N : Nat} {w0 w w' : World} {l : List Nat} {K : Int} {k : Nat} {v v' : Value} {o : Obj} (h : RScaleRel N w0 l K k v w) (hk : k < l.length) (hK : k < firstBad (cntE K) l) (h1 : w'.ownsRow w0.heap.size 2 1 v' (k + 1) ((l.take k).map (encC K) ++ [encC K l[k]])) (hg : (w.alloc o).grownBy w' v.ownBlock) :
    RScaleRel N w0 l K (k + 1) v' w' := by
  have hl : (l.take k).length = k := by simp; omega
  have h2 := h.2.1.step (o := o) l[k] (by rw [hl]; exact h1) hg
  rw [← take_snoc l k hk] at h2
  have hgr : Below (N + 1) w w' := by
    have b1 : Below (N + 1) w (w.alloc o) := (Below.refl _ _).alloc (by have := h.2.2.1.lt; omega) o
    exact b1.grown hg (by have := h.2.2.1.lt; simp; omega) fun j hj => by have := (h.2.1.2.lt j hj).1; have := h.2.2.2; omega
  exact ⟨hK, h2, h.2.2.1.on hgr (by omega), h.2.2.2⟩
set_option maxHeartbeats 1000000 in
theorem refScale_any (a : Option Addr) (cap : Nat) (l : List Nat) (K : Int) (w : World) (hr : WideL l) (hl : ReadsL encU w.heap.size w a l) (hlen : l.length ≤ 1000) (hk1 : -9223372036854775808 ≤ K) (hk2 : K ≤ 9223372036854775807) :
    Calls Tryd.prog 10 #[.slice a l.length cap, .int .i64 K] w fun e w' => RScaleOut K l e w' ∧ Below w.heap.size w w' := by
  have HR := Lib.hid hr
  have hKl := first_le (cntE K) l
  obtain ⟨i0, hi, hz0, hz1, hz2⟩ := info_of info_int64
  have hW0 : Below w.heap.size w (w.alloc (.cells #[.slice none 0 0, .int .i64 0, .int .i64 0] 33)) := (Below.refl _ _).alloc (Nat.le_refl _) _
  have HS : Hid (RScaleRel w.heap.size (w.alloc (.cells #[.slice none 0 0, .int .i64 0, .int .i64 0] 33)) l K 0 (.slice none 0 0) (w.alloc (.cells #[.slice none 0 0, .int .i64 0, .int .i64 0] 33))) :=
    Lib.hid ⟨Nat.zero_le _, GrowRel.start _ _ _, ThreeAt.new _ _ _ _ _, by simp⟩
  have HL := Lib.hid (hl.on hW0)
  have HB0 := Lib.hid hW0
  clear hl hr hW0
  go_enter Tryd.func10, Tryd.ntmps10
  go_wp2
  generalize (w.alloc (.cells #[.slice none 0 0, .int .i64 0, .int .i64 0] 33)) = W0 at *
  go_loopw [5, 6] (fun v i wr => ∃ k : Nat, i = .int .i64 k ∧ Hid (RScaleRel w.heap.size W0 l K k v wr)) (fun _ i _ => l.length - (intOf i).toNat)
  case atStart => exact ⟨0, rfl, HS⟩
  case round =>
    obtain ⟨k, rfl, HF⟩ := hrel
    have hkK := HF.out.1
    have hBr := Lib.hid (HB0.out.trans (HF.out.2.1.1.mono HB0.out.size))
    by_cases hlt : k < l.length
    · obtain ⟨b, off, rfl, hbN, hck0⟩ := HL.out.at hlt
      have hrk := HR.out k hlt
      have hck := (hBr.out.cell (p := ⟨b, off + k, none⟩) hbN)
      have hcw := (HB0.out.cell (p := ⟨b, off + k, none⟩) hbN)
      rw [← hcw, hck0] at hck
      unfold encU at hck
      have hl : (l.take k).length = k := by simp; omega
      have HX : Hid (k = firstBad (cntE K) l → cntE K l[k] ≠ 0 ∧ errAt (cntE K) l = cntE K l[k] ∧ plcAt (cntE K) l = (k : Int) ∧ cnts K l = []) :=
        Lib.hid (fun e => ⟨by subst e; exact first_bad (cntE K) l hlt, (err_bad (cntE K) l k hlt e.symm).1, (err_bad (cntE K) l k hlt e.symm).2, if_neg (by omega)⟩)
      have HG : Hid (k < firstBad (cntE K) l → cntE K l[k] = 0) := Lib.hid (fun e => first_good (cntE K) l k hlt e)
      have HST : Hid (∀ w2 v' w' o, RScaleRel w.heap.size W0 l K k u5 w2 → k < firstBad (cntE K) l → w'.ownsRow W0.heap.size 2 1 v' (k + 1) ((l.take k).map (encC K) ++ [.int .i64 (cntN K l[k])]) → (w2.alloc o).grownBy w' u5.ownBlock → RScaleRel w.heap.size W0 l K (k + 1) v' w') :=
        Lib.hid fun w2 v' w' o h hk h1 h2 => h.step hlt hk h1 h2
      clear hck0 hcw
      generalize l[k] = x at *
      go_wp2_with fail
      refine (refOne_any x K hrk hk1 hk2 _).mono ?_
      rintro e w1 ⟨rfl, hb1⟩
      have HB1 := Lib.hid hb1
      have hs1 := hb1.size
      have hf1 := HF.out.on hb1
      have hf2 := hf1.on ((Below.refl _ _).alloc (Nat.le_refl _) (.cells #[.int .i64 (cntN K x), .int .i64 (cntE K x)] 58))
      have HF1 := Lib.hid hf1
      have HF2 := Lib.hid hf2
      have hsz := hf1.2.1.1.size
      have hNz := hf1.2.2.2
      obtain ⟨c0, c1, c2, f0, f1, f2⟩ := hf1.2.2.1
      clear hb1 hf1 hf2
      by_cases hkk : k < firstBad (cntE K) l
      · have t : (cntE K x != 0) = false := by simp [HG.out hkk]
        clear c0 c1 c2 f0 f1 f2
        go_wp2_with (first
          | (at_builtin; refine wpList_append_own _ rfl _ _ 29 rfl W0.heap.size 2 i0 (.int .i64 0) 1 8 Tryd.underlying29 hi hz0 hz1 hz2 rfl (by decide) u5 (l.take k).length ((l.take k).map (encC K)) rfl (HF2.out.2.1.2.alloc _) ⟨w1.heap.size + 1, 0, none⟩ 1 1 [.int .i64 (cntN K x)] rfl rfl (one_newsAt (by simp)) (by intro u hu; simp at hu; subst hu; rfl) (by unfold maxLen; omega) (by omega) (by simp; omega) ?_))
        intro v' w2 hown hgrow _
        rw [← List.map_take] at hown
        have HN := Lib.hid (HST.out _ v' w2 _ HF2.out hkk hown hgrow)
        clear hown hgrow
        go_wp2
        go_roundw
        case rel => exact ⟨k + 1, by go_num, HN⟩
        case measure => simp [intOf]; omega
      · have hke := Lib.hid (show k = firstBad (cntE K) l by omega)
        have hx := HX.out hke.out
        have t : (cntE K x != 0) = true := by simp [hx.1]
        have HE := Lib.hid hx.2
        have hz := HF1.out.2.2.1.lt
        clear hx
        go_wp2
        have hq := ((HF1.out.2.2.1.set (.slice none 0 0) (.int .i64 (cntE K x)) (.int .i64 (k : Int))))
        obtain ⟨s0, s1, s2, -, -, -⟩ := hq.on ((Below.refl _ _).alloc (Nat.le_refl _) (.cells #[.int .i64 (cntN K x), .int .i64 (cntE K x)] 58)) hq.lt
        refine bodyPost_ret (v := .agg #[.slice none 0 0, .int .i64 (cntE K x), .int .i64 (k : Int)]) (by simp [results, Tryd.results10, go_sem, s0, s1, s2]) rfl ⟨⟨none, 0, ?_, ?_⟩, ?_⟩
        · rw [HE.out.1, HE.out.2.1, HE.out.2.2]; rfl
        · rw [HE.out.2.2]; exact ReadsL.nil _ _ _ _
        · exact ((((hBr.out.trans (HB1.out.mono hBr.out.size)).setCell (p := ⟨w.heap.size, 0, none⟩) (Nat.le_refl _) _).setCell (p := ⟨w.heap.size, 1, none⟩) (Nat.le_refl _) _).setCell (p := ⟨w.heap.size, 2, none⟩) (Nat.le_refl _) _).alloc (by simp; omega) _
    · have hke : k = l.length := by omega
      have hKe : firstBad (cntE K) l = l.length := by omega
      have e1 := Lib.hid (show cnts K l = l.map (cntN K) from if_pos hKe)
      have e2 := Lib.hid (err_good (cntE K) l hKe)
      subst hke
      obtain ⟨c0, c1, c2, f0, f1, f2⟩ := HF.out.2.2.1
      obtain ⟨p, cap', rfl, hrd, -⟩ := HF.out.2.1.reads
      have hW := HF.out.2.1.2
      have hN := HF.out.2.2.2
      rw [List.take_length] at hrd hW ⊢
      have HW := Lib.hid hW
      clear hrd hW
      go_wp2
      obtain ⟨s0, s1, s2, -, -, -⟩ := HF.out.2.2.1.set (.slice p l.length cap') (.int .i64 0) (.int .i64 0)
      refine bodyPost_ret (v := .agg #[.slice p l.length cap', .int .i64 0, .int .i64 0]) (by simp [results, Tryd.results10, go_sem, s0, s1, s2]) rfl ⟨⟨p, cap', ?_, ?_⟩, ?_⟩
      · rw [e1.out, List.length_map, e2.out.1, e2.out.2]
      · obtain ⟨p', cap2, he, hrd, -⟩ := owns_readsL rfl (owns_setCell (owns_setCell (owns_setCell HW.out (p := ⟨w.heap.size, 0, none⟩) hN (.slice p l.length cap')) (p := ⟨w.heap.size, 1, none⟩) hN (.int .i64 0)) (p := ⟨w.heap.size, 2, none⟩) hN (.int .i64 0))
        obtain ⟨rfl, -, rfl⟩ := Value.slice.inj he
        rw [e1.out]
        exact ReadsL.map.1 hrd
      · exact ((hBr.out.setCell (p := ⟨w.heap.size, 0, none⟩) (Nat.le_refl _) _).setCell (p := ⟨w.heap.size, 1, none⟩) (Nat.le_refl _) _).setCell (p := ⟨w.heap.size, 2, none⟩) (Nat.le_refl _) _
set_option maxHeartbeats 400000 in
/-- Of equal lists Same tells that they are. -/
theorem sameI_any (p q : Option Addr) (c d : Nat) (l : List Int) (w : World) (h1 : ReadsL (encInt .i64) w.heap.size w p l) (h2 : ReadsL (encInt .i64) w.heap.size w q l) (hlen : l.length ≤ 1000) :
    Calls Tryd.prog 12 #[.slice p l.length c, .slice q l.length d] w fun e w' => e = .returned (.bool true) ∧ Below w.heap.size w w' := by
  have H1 := Lib.hid h1
  have H2 := Lib.hid h2
  have HS := Lib.hid (Below.refl w.heap.size w)
  clear h1 h2
  go_enter Tryd.func12, Tryd.ntmps12
  go_wp2
  go_loopw [5] (fun i wr => ∃ k : Nat, i = .int .i64 k ∧ k ≤ l.length ∧ Hid (Below w.heap.size w wr)) (fun i _ => l.length - (intOf i).toNat)
  case atStart => exact ⟨0, rfl, Nat.zero_le _, HS⟩
  case round =>
    obtain ⟨k, rfl, hk, HB⟩ := hrel
    by_cases hlt : k < l.length
    · obtain ⟨b0, o0, rfl, -, g0⟩ := (H1.out.on HB.out).at hlt
      obtain ⟨b1, o1, rfl, -, g1⟩ := (H2.out.on HB.out).at hlt
      unfold encInt at g0 g1
      generalize l[k] = x at *
      go_wp2
      go_quiet (fail)
      go_wp2
      go_roundw
      case rel => exact ⟨k + 1, by go_num, hlt, below_drewN HB.out _⟩
      case measure => (simp [intOf] <;> omega)
    · have hke : k = l.length := by omega
      subst hke
      go_wp2
      go_ret
      exact ⟨rfl, HB.out⟩
set_option maxHeartbeats 400000 in
/-- Words as floats. -/
theorem floats_any (a : Option Addr) (cap : Nat) (l : List Nat) (w : World) (hl : ReadsL encU w.heap.size w a l) (hlen : l.length ≤ 1000) :
    Calls Tryd.prog 7 #[.slice a l.length cap] w fun e w' => (∃ p c, e = .returned (.slice p l.length c) ∧ ReadsL encF w'.heap.size w' p l) ∧ Below w.heap.size w w' := by
  have HL := Lib.hid hl
  clear hl
  obtain ⟨i0, hi, hz0, hz1, hz2⟩ := info_of info_float
  have HS : Hid (GrowRel encF 48 w (l.take 0) (.slice none 0 0) w) := Lib.hid (GrowRel.start _ _ _)
  go_enter Tryd.func7, Tryd.ntmps7
  go_wp2
  go_loopw [3, 4] (fun v i wr => ∃ k : Nat, i = .int .i64 k ∧ k ≤ l.length ∧ Hid (GrowRel encF 48 w (l.take k) v wr)) (fun _ i _ => l.length - (intOf i).toNat)
  case atStart => exact ⟨0, rfl, Nat.zero_le _, HS⟩
  case round =>
    obtain ⟨k, rfl, hk, HF⟩ := hrel
    by_cases hlt : k < l.length
    · obtain ⟨b, off, rfl, hbN, hck⟩ := (HL.out.on HF.out.1).at hlt
      have hsz := HF.out.1.size
      have hl' : (l.take k).length = k := by simp; omega
      have HST : Hid (∀ v' w' o, w'.ownsRow w.heap.size 48 1 v' (k + 1) ((l.take k).map encF ++ [.float .f64 l[k]]) → (wr.alloc o).grownBy w' u3.ownBlock → GrowRel encF 48 w (l.take (k + 1)) v' w') :=
        Lib.hid fun v' w' o h1 h2 => by rw [take_snoc l k hlt]; exact HF.out.step (o := o) l[k] (by rw [hl']; exact h1) h2
      unfold encU at hck
      generalize l[k] = x at *
      go_wp2_with (first
        | (go_at_call 18; refine (of_any _ _).mono ?_; rintro e w' ⟨rfl, rfl⟩)
        | (at_builtin; refine wpList_append_own _ rfl _ _ 24 rfl w.heap.size 48 i0 (.float .f64 0) 1 8 Tryd.underlying24 hi hz0 hz1 hz2 rfl (by decide) u3 (l.take k).length ((l.take k).map encF) rfl (HF.out.2.alloc _) ⟨wr.heap.size, 0, none⟩ 1 1 [.float .f64 x] rfl rfl (one_newsAt rfl) (by intro u hu; simp at hu; subst hu; rfl) (by unfold maxLen; omega) (by omega) (by simp; omega) ?_))
      intro v' w1 hown hgrow _
      rw [← List.map_take] at hown
      have HN := Lib.hid (HST.out v' w1 _ hown hgrow)
      clear hown hgrow
      go_wp2
      go_roundw
      case rel => exact ⟨k + 1, by go_num, hlt, HN⟩
      case measure => (simp [intOf] <;> omega)
    · have hke : k = l.length := by omega
      subst hke
      obtain ⟨p, cap', rfl, hrd, -⟩ := HF.out.reads
      have HB := Lib.hid HF.out.1
      rw [List.take_length] at hrd ⊢
      have HRD := Lib.hid hrd
      clear hrd
      go_wp2
      go_ret
      exact ⟨⟨p, cap', rfl, HRD.out⟩, HB.out⟩
/-- At the head of a round of the document's Step. -/
def RStepRel (N : Nat) (w0 : World) (l : List Nat) (k : Nat) (kk : Int) (fd : Bool) (w : World) : Prop :=
  k ≤ firstBad noE l ∧ fold (l.take k) = (kk, fd) ∧ Below N w0 w ∧ ThreeAt N w (.int .i64 0) (.int .i64 0) (.int .i64 0)
theorem RStepRel.keep {N : Nat} {w0 w w' : World} {l : List Nat} {k : Nat} {kk : Int} {fd : Bool} (h : RStepRel N w0 l k kk fd w) (hb : Below w.heap.size w w') : RStepRel N w0 l k kk fd w' :=
  ⟨h.1, h.2.1, h.2.2.1.trans (hb.mono (Nat.le_of_lt h.2.2.2.lt)), h.2.2.2.on hb h.2.2.2.lt⟩
theorem RStepRel.step {N : Nat} {w0 w : World} {l : List Nat} {k : Nat} {kk : Int} {fd : Bool} (h : RStepRel N w0 l k kk fd w) (hk : k < l.length) (hK : k < firstBad noE l) : RStepRel N w0 l (k + 1) (stq kk fd (partM l[k]) (partE l[k])).1 (stq kk fd (partM l[k]) (partE l[k])).2 w := by
  refine ⟨hK, ?_, h.2.2⟩
  rw [take_snoc l k hk, fold_snoc, h.2.1]
  rfl
theorem agg_iii {a b c d x y : Int} (h1 : a = b) (h2 : c = d) (h3 : x = y) : Ending.returned (.agg #[.int .i64 a, .int .i64 c, .int .i64 x]) = .returned (.agg #[.int .i64 b, .int .i64 d, .int .i64 y]) := by rw [h1, h2, h3]
theorem rstep_end {N : Nat} {w w1 : World} {l : List Nat} {k : Nat} {kk : Int} {fd : Bool} (h : Hid (RStepRel N w l k kk fd w1)) (u v x : Value) :
    ThreeAt N (((w1.setCell ⟨N, 0, none⟩ u).setCell ⟨N, 1, none⟩ v).setCell ⟨N, 2, none⟩ x) u v x ∧ Below N w (((w1.setCell ⟨N, 0, none⟩ u).setCell ⟨N, 1, none⟩ v).setCell ⟨N, 2, none⟩ x) :=
  ⟨h.out.2.2.2.set u v x, ((h.out.2.2.1.setCell (p := ⟨N, 0, none⟩) (Nat.le_refl _) _).setCell (p := ⟨N, 1, none⟩) (Nat.le_refl _) _).setCell (p := ⟨N, 2, none⟩) (Nat.le_refl _) _⟩
set_option maxHeartbeats 1000000 in
theorem refStep_any (a : Option Addr) (cap : Nat) (l : List Nat) (w : World) (hr : WideL l) (hl : ReadsL encU w.heap.size w a l) (hlen : l.length ≤ 1000) :
    Calls Tryd.prog 11 #[.slice a l.length cap] w fun e w' => e = .returned (.agg #[.int .i64 (stepK l), .int .i64 (errAt noE l), .int .i64 (plcAt noE l)]) ∧ Below w.heap.size w w' := by
  have HR := Lib.hid hr
  have hKl := first_le noE l
  have hW0 : Below w.heap.size w (w.alloc (.cells #[.int .i64 0, .int .i64 0, .int .i64 0] 36)) := (Below.refl _ _).alloc (Nat.le_refl _) _
  have HS : Hid (RStepRel w.heap.size w l 0 0 false (w.alloc (.cells #[.int .i64 0, .int .i64 0, .int .i64 0] 36))) :=
    Lib.hid ⟨Nat.zero_le _, rfl, hW0, ThreeAt.new _ _ _ _ _⟩
  have HL := Lib.hid hl
  clear hl hr hW0
  go_enter Tryd.func11, Tryd.ntmps11
  go_wp2
  go_loopw [3, 4, 5] (fun v f i wr => ∃ (k : Nat) (kk : Int) (fd : Bool), i = .int .i64 k ∧ v = .int .i64 kk ∧ f = .bool fd ∧ Hid (RStepRel w.heap.size w l k kk fd wr)) (fun _ _ i _ => l.length - (intOf i).toNat)
  case atStart => exact ⟨0, 0, false, rfl, rfl, rfl, HS⟩
  case round =>
    obtain ⟨k, kk, fd, rfl, rfl, rfl, HF⟩ := hrel
    have hkK := HF.out.1
    by_cases hlt : k < l.length
    · obtain ⟨b, off, rfl, hbN, hck⟩ := (HL.out.on HF.out.2.2.1).at hlt
      have hrk := HR.out k hlt
      unfold encU at hck
      have HX : Hid (k = firstBad noE l → noE l[k] ≠ 0 ∧ errAt noE l = noE l[k] ∧ plcAt noE l = (k : Int) ∧ stepK l = 0) :=
        Lib.hid (fun e => ⟨by subst e; exact first_bad noE l hlt, (err_bad noE l k hlt e.symm).1, (err_bad noE l k hlt e.symm).2, if_neg (by omega)⟩)
      have HG : Hid (k < firstBad noE l → noE l[k] = 0) := Lib.hid (fun e => first_good noE l k hlt e)
      have HST : Hid (∀ w', k < firstBad noE l → RStepRel w.heap.size w l k kk fd w' → RStepRel w.heap.size w l (k + 1) (stq kk fd (partM l[k]) (partE l[k])).1 (stq kk fd (partM l[k]) (partE l[k])).2 w') := Lib.hid fun w' e h => h.step hlt e
      obtain ⟨c0, c1, c2, f0, f1, f2⟩ := HF.out.2.2.2
      have hz := HF.out.2.2.2.lt
      generalize l[k] = x at *
      rcases noE_cases x with ⟨h1, h2, -⟩ | ⟨h1, h2, -⟩ | ⟨h1, h2, -⟩
      · have hke := Lib.hid (show k = firstBad noE l by
          rcases Nat.lt_or_eq_of_le hkK with h | h
          · have := HG.out h; omega
          · exact h)
        have HE := Lib.hid (HX.out hke.out)
        have HZ := Lib.hid h2
        clear h2
        go_wp2_with (first | (go_at_call 17; refine (refKind_any _ hrk _).mono ?_; rintro e w' ⟨rfl, rfl⟩))
        have he := rstep_end HF (.int .i64 0) (.int .i64 11) (.int .i64 (k : Int))
        obtain ⟨s0, s1, s2, -, -, -⟩ := he.1
        exact bodyPost_ret (v := .agg #[.int .i64 0, .int .i64 11, .int .i64 (k : Int)]) (by simp [results, Tryd.results11, go_sem, s0, s1, s2]) rfl ⟨agg_iii HE.out.2.2.2.symm (by rw [HE.out.2.1, HZ.out]) HE.out.2.2.1.symm, he.2⟩
      · have hke := Lib.hid (show k = firstBad noE l by
          rcases Nat.lt_or_eq_of_le hkK with h | h
          · have := HG.out h; omega
          · exact h)
        have HE := Lib.hid (HX.out hke.out)
        have HZ := Lib.hid h2
        clear h2
        go_wp2_with (first | (go_at_call 17; refine (refKind_any _ hrk _).mono ?_; rintro e w' ⟨rfl, rfl⟩))
        have he := rstep_end HF (.int .i64 0) (.int .i64 12) (.int .i64 (k : Int))
        obtain ⟨s0, s1, s2, -, -, -⟩ := he.1
        exact bodyPost_ret (v := .agg #[.int .i64 0, .int .i64 12, .int .i64 (k : Int)]) (by simp [results, Tryd.results11, go_sem, s0, s1, s2]) rfl ⟨agg_iii HE.out.2.2.2.symm (by rw [HE.out.2.1, HZ.out]) HE.out.2.2.1.symm, he.2⟩
      · have hkk : k < firstBad noE l := by
          rcases Nat.lt_or_eq_of_le hkK with h | h
          · exact h
          · exact absurd h2 (HX.out h).1
        have k0 : ¬ kindN x = 0 := by omega
        have k1 : ¬ kindN x = 1 := by omega
        have HST2 := Lib.hid fun w' h => HST.out w' hkk h
        clear h2 c0 c1 c2 f0 f1 f2
        go_wp2_with (first | (go_at_call 17; refine (refKind_any _ hrk _).mono ?_; rintro e w' ⟨rfl, rfl⟩) | fail)
        refine (refParts_any x hrk _).mono ?_
        rintro e w1 ⟨rfl, hb1⟩
        have hf1 := HF.out.keep hb1
        have HN := Lib.hid (HST2.out _ (hf1.keep ((Below.refl _ _).alloc (Nat.le_refl _) (.cells #[.int .u64 (partM x : Int), .int .i64 (partE x), .bool (partOk x)] 61))))
        clear hb1 hf1
        by_cases hm : partM x = 0
        · have e1 := stq_off kk fd (partM x) (partE x) (fun h => h.1 hm)
          rw [e1.1, e1.2] at HN
          have t : ((partM x : Int) != 0) = false := by simp [hm]
          clear e1 hm
          go_wp2
          go_roundw
          case rel => exact ⟨k + 1, _, _, by go_num, rfl, rfl, HN⟩
          case measure => simp [intOf]; omega
        · have t : ((partM x : Int) != 0) = true := by simp [hm]
          cases fd
          · have e1 := stq_on kk false (partM x) (partE x) ⟨hm, Or.inl rfl⟩
            rw [e1.1, e1.2] at HN
            clear e1 hm
            go_wp2
            go_roundw
            case rel => exact ⟨k + 1, _, _, by go_num, rfl, rfl, HN⟩
            case measure => simp [intOf]; omega
          · by_cases hp : partE x < kk
            · have e1 := stq_on kk true (partM x) (partE x) ⟨hm, Or.inr hp⟩
              rw [e1.1, e1.2] at HN
              clear e1 hm
              go_wp2
              go_roundw
              case rel => exact ⟨k + 1, _, _, by go_num, rfl, rfl, HN⟩
              case measure => simp [intOf]; omega
            · have e1 := stq_off kk true (partM x) (partE x) (fun h => hp (h.2.resolve_left (by simp)))
              rw [e1.1, e1.2] at HN
              clear e1 hm
              go_wp2
              go_roundw
              case rel => exact ⟨k + 1, _, _, by go_num, rfl, rfl, HN⟩
              case measure => simp [intOf]; omega
    · have hke : k = l.length := by omega
      have hKe : firstBad noE l = l.length := by omega
      have e1 := Lib.hid (show stepK l = kk by
        have := HF.out.2.1
        rw [hke, List.take_length] at this
        rw [show stepK l = (fold l).1 from if_pos hKe, this])
      have e2 := Lib.hid (err_good noE l hKe)
      obtain ⟨c0, c1, c2, f0, f1, f2⟩ := HF.out.2.2.2
      subst hke
      go_wp2
      have he := rstep_end HF (.int .i64 kk) (.int .i64 0) (.int .i64 0)
      obtain ⟨s0, s1, s2, -, -, -⟩ := he.1
      exact bodyPost_ret (v := .agg #[.int .i64 kk, .int .i64 0, .int .i64 0]) (by simp [results, Tryd.results11, go_sem, s0, s1, s2]) rfl ⟨agg_iii e1.out.symm e2.out.1.symm e2.out.2.symm, he.2⟩
end Go.Proofs.YtopniihomjakoaaDoor
