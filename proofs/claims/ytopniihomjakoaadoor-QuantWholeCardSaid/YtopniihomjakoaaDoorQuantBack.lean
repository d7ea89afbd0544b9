/- Contracts of Back, the program's and the document's own. -/
import Derived.Test.YtopniihomjakoaaDoorQuantRefs
namespace Go.Proofs.YtopniihomjakoaaDoor
open Go.RowKit Go.ChangeShapes FbitPure QuantPure
def encI (n : Int) : Value := .int .i64 n
def RngI (l : List Int) : Prop := ∀ i (h : i < l.length), -9223372036854775808 ≤ l[i] ∧ l[i] ≤ 9223372036854775807
theorem store_float (x : Nat) (a : Addr) (m : Mode) (w : World) : Sem.run Tryd.prog (store a (.float .f64 x) m) w = stored Tryd.prog w a (.float .f64 x) m := run_store _ _ _ _ _ rfl
def encB (K n : Int) : Value := .float .f64 (backW K n)
/-- At the head of a round of Back. -/
def BackRel (w0 : World) (l : List Int) (K : Int) (k : Nat) (w : World) : Prop :=
  k ≤ firstBad (backE K) l ∧ Below w0.heap.size w0 w ∧ RowIs w0.heap.size w ((l.take k).map (encB K) ++ List.replicate (l.length - k) (.float .f64 0))
theorem BackRel.at {w0 w : World} {l : List Int} {K : Int} {k : Nat} (h : BackRel w0 l K k w) (hk : k < l.length) : w.cell? ⟨w0.heap.size, k, none⟩ = some (.float .f64 0) ∧ w.frozen? ⟨w0.heap.size, k, none⟩ = false := by
  have hlen : k < ((l.take k).map (encB K) ++ List.replicate (l.length - k) (Value.float .f64 0)).length := by simp; omega
  obtain ⟨h1, h2⟩ := h.2.2 k hlen
  refine ⟨?_, h2⟩
  rw [h1, List.getElem_append_right (by simp; omega)]
  simp
theorem BackRel.step {w0 w : World} {l : List Int} {K : Int} {k : Nat} (h : BackRel w0 l K k w) (hk : k < l.length) (hK : k < firstBad (backE K) l) : BackRel w0 l K (k + 1) (w.setCell ⟨w0.heap.size, k, none⟩ (encB K l[k])) := by
  refine ⟨hK, h.2.1.setCell (Nat.le_refl _) _, ?_⟩
  have := h.2.2.set (k := k) (by simp; omega) (encB K l[k])
  rwa [fill_step l (encB K) _ k hk] at this
/-- What Back tells: the floats, and whether there are any. -/
def BackOut (K : Int) (l : List Int) (e : Ending) (w' : World) : Prop :=
  ∃ p c, e = .returned (.tuple #[.slice p (backs K l).length c, .bool (backOk K l)]) ∧ ReadsL encF w'.heap.size w' p (backs K l)
theorem ret_sb {s : Value} {c d : Bool} (h2 : c = d) : Ending.returned (.tuple #[s, .bool c]) = .returned (.tuple #[s, .bool d]) := by rw [h2]
theorem back_none (K : Int) (l : List Int) (k : Nat) (hk : k < l.length) (e : k = firstBad (backE K) l) : backs K l = [] ∧ backOk K l = false := by
  have h : ¬ firstBad (backE K) l = l.length := by omega
  exact ⟨if_neg h, decide_eq_false h⟩
theorem back_all (K : Int) (l : List Int) (h : firstBad (backE K) l = l.length) : backs K l = l.map (backW K) ∧ backOk K l = true := ⟨if_pos h, decide_eq_true h⟩
theorem back_good (K n : Int) (h : backE K n = 0) : makeOk n.natAbs K = true := (backE_iff K n).1 h
theorem back_bad (K n : Int) (h : backE K n ≠ 0) : makeOk n.natAbs K = false := by
  cases hc : makeOk n.natAbs K
  · rfl
  · exact absurd ((backE_iff K n).2 hc) h
set_option maxHeartbeats 1000000 in
theorem qback_any (a : Option Addr) (cap : Nat) (l : List Int) (K : Int) (w : World) (hr : RngI l) (hl : ReadsL encI w.heap.size w a l) (hlen : l.length ≤ 1000) (hk1 : -9223372036854775808 ≤ K) (hk2 : K ≤ 9223372036854775807) (hT : TabAt 1 Lib.deBruijn64tab w) :
    Calls Tryd.prog 14 #[.slice a l.length cap, .int .i64 K] w fun e w' => BackOut K l e w' ∧ Below w.heap.size w w' := by
  have HT := Lib.hid hT
  have HL := Lib.hid hl
  have HR := Lib.hid hr
  have hKl := first_le (backE K) l
  have hmk := makeRow (P := Tryd.prog) (T := 24) (E := 48) (z := .float .f64 0) (c := 8) Tryd.underlying24 (by kernel_rfl) (by decide) rfl l.length (by omega) w
  have hB0 := (Below.refl w.heap.size w).alloc (Nat.le_refl _) (.cells (madeCells #[.float .f64 0] l.length) 48)
  have HS : Hid (BackRel w l K 0 (w.alloc (.cells (madeCells #[.float .f64 0] l.length) 48))) := Lib.hid ⟨Nat.zero_le _, hB0, by simpa using rowIs_made w (.float .f64 0) l.length 48⟩
  clear hT hl hr hB0
  go_enter Tryd.func14, Tryd.ntmps14
  go_wp2
  go_loopw [16] (fun i wr => ∃ k : Nat, i = .int .i64 k ∧ Hid (BackRel w l K k wr)) (fun i _ => l.length - (intOf i).toNat)
  case atStart => exact ⟨0, rfl, HS⟩
  case round =>
    obtain ⟨k, rfl, HF⟩ := hrel
    have hkK := HF.out.1
    by_cases hlt : k < l.length
    · obtain ⟨b, off, rfl, hbN, hck0⟩ := HL.out.at hlt
      have hrk := HR.out k hlt
      have hck := (HF.out.2.1.cell (p := ⟨b, off + k, none⟩) hbN).trans hck0
      have HTr := Lib.hid (tab_on HT.out (by decide) HF.out.2.1)
      obtain ⟨hcd, hfd⟩ := HF.out.at hlt
      have HX : Hid (k = firstBad (backE K) l → makeOk l[k].natAbs K = false ∧ backs K l = [] ∧ backOk K l = false) := Lib.hid (fun e => ⟨back_bad K _ (by subst e; exact Go.Proofs.YtopniihomjakoaaDoor.QuantPure.first_bad (backE K) l hlt), back_none K l k hlt e⟩)
      have HG : Hid (k < firstBad (backE K) l → makeOk l[k].natAbs K = true) := Lib.hid (fun e => back_good K _ (first_good (backE K) l k hlt e))
      have HST : Hid (k < firstBad (backE K) l → BackRel w l K (k + 1) (wr.setCell ⟨w.heap.size, k, none⟩ (encB K l[k]))) := Lib.hid fun e => HF.out.step hlt e
      have hbel := Lib.hid HF.out.2.1
      unfold encI at hck
      unfold encB backW at HST
      clear hck0
      generalize l[k] = x at *
      have hsf := store_float (makeW (decide (x < 0)) x.natAbs K)
      have hx64 : x.natAbs < 18446744073709551616 := by omega
      by_cases hkk : k < firstBad (backE K) l
      · have t := HG.out hkk
        have HN := Lib.hid (HST.out hkk)
        go_wp2_with (first
          | (go_at_call 27; refine (size_any x hrk.1 hrk.2 _).mono ?_; rintro e w' ⟨rfl, rfl⟩)
          | (go_at_call 26; refine (make_any _ _ _ hx64 hk1 hk2 _ HTr.out).mono ?_; rintro e w' ⟨rfl, rfl⟩))
        go_roundw
        case rel => exact ⟨k + 1, by go_num, HN⟩
        case measure => simp [intOf]; omega
      · have hke := Lib.hid (show k = firstBad (backE K) l by omega)
        have hx := HX.out hke.out
        have t := hx.1
        have HE := Lib.hid hx.2
        clear hx
        go_wp2_with (first
          | (go_at_call 27; refine (size_any x hrk.1 hrk.2 _).mono ?_; rintro e w' ⟨rfl, rfl⟩)
          | (go_at_call 26; refine (make_any _ _ _ hx64 hk1 hk2 _ HTr.out).mono ?_; rintro e w' ⟨rfl, rfl⟩))
        go_ret2
        refine ⟨⟨none, 0, ?_, ?_⟩, hbel.out⟩
        · rw [HE.out.1, HE.out.2]; rfl
        · rw [HE.out.1]; exact ReadsL.nil _ _ _ _
    · have hke : k = l.length := by omega
      have hKe : firstBad (backE K) l = l.length := by omega
      have e1 := Lib.hid (back_all K l hKe)
      subst hke
      go_wp2
      go_ret2
      refine ⟨⟨some ⟨w.heap.size, 0, none⟩, l.length, ?_, ?_⟩, HF.out.2.1⟩
      · rw [e1.out.1, e1.out.2, List.length_map]; rfl
      · have h := HF.out.2.2
        rw [List.take_length, Nat.sub_self, List.replicate_zero, List.append_nil] at h
        rw [e1.out.1]
        refine RowIs.reads ?_
        rw [List.map_map]
        exact h
theorem refMakeZ_any (neg : Bool) (z e : Int) (h0 : 0 ≤ z) (h1 : z ≤ 18446744073709551615) (he1 : -9223372036854775808 ≤ e) (he2 : e ≤ 9223372036854775807) (w : World) :
    Calls Tryd.prog 28 #[.bool neg, .int .u64 z, .int .i64 e] w fun en w' => en = .returned (.agg #[.int .u64 (makeW neg z.toNat e : Int), .bool (makeOk z.toNat e)]) ∧ Below w.heap.size w w' := by
  obtain ⟨n, rfl⟩ := Int.eq_ofNat_of_zero_le h0
  exact refMake_any neg n e (by omega) he1 he2 w
def encW (K n : Int) : Value := .int .u64 (backW K n : Int)
/-- At the head of a round of the document's Back. -/
def RBackRel (N : Nat) (w0 : World) (l : List Int) (K : Int) (k : Nat) (v : Value) (w : World) : Prop :=
  k ≤ firstBad (backE K) l ∧ GrowRel (encW K) 46 w0 (l.take k) v w ∧ TwoAt N w (.slice none 0 0) (.bool false) ∧ N < w0.heap.size
theorem RBackRel.on {N : Nat} {w0 w w' : World} {l : List Int} {K : Int} {k : Nat} {v : Value} (h : RBackRel N w0 l K k v w) (hb : Below w.heap.size w w') : RBackRel N w0 l K k v w' :=
  ⟨h.1, h.2.1.on hb, h.2.2.1.on hb h.2.2.1.lt, h.2.2.2⟩
theorem RBackRel.step {N : Nat} {w0 w w' : World} {l : List Int} {K : Int} {k : Nat} {v v' : Value} {o : Obj} (h : RBackRel N w0 l K k v w) (hk : k < l.length) (hK : k < firstBad (backE K) l) (h1 : w'.ownsRow w0.heap.size 46 1 v' (k + 1) ((l.take k).map (encW K) ++ [encW K l[k]])) (hg : (w.alloc o).grownBy w' v.ownBlock) :
    RBackRel N w0 l K (k + 1) v' w' := by
  have hl : (l.take k).length = k := by simp; omega
  have h2 := h.2.1.step (o := o) l[k] (by rw [hl]; exact h1) hg
  rw [← take_snoc l k hk] at h2
  have hgr : Below (N + 1) w w' := by
    have b1 : Below (N + 1) w (w.alloc o) := (Below.refl _ _).alloc (by have := h.2.2.1.lt; omega) o
    exact b1.grown hg (by have := h.2.2.1.lt; simp; omega) fun j hj => by have := (h.2.1.2.lt j hj).1; have := h.2.2.2; omega
  exact ⟨hK, h2, h.2.2.1.on hgr (by omega), h.2.2.2⟩
/-- What the document's Back tells. -/
def RBackOut (K : Int) (l : List Int) (e : Ending) (w' : World) : Prop :=
  ∃ p c, e = .returned (.agg #[.slice p (backs K l).length c, .bool (backOk K l)]) ∧ ReadsL encU w'.heap.size w' p (backs K l)
theorem rback_end {N : Nat} {w w1 : World} {a b : Value} (u v : Value) (HB : Hid (Below N w w1)) (HR : Hid (TwoAt N w1 a b)) :
    TwoAt N ((w1.setCell ⟨N, 0, none⟩ u).setCell ⟨N, 1, none⟩ v) u v ∧ Below N w ((w1.setCell ⟨N, 0, none⟩ u).setCell ⟨N, 1, none⟩ v) :=
  ⟨HR.out.set u v, (HB.out.setCell (p := ⟨N, 0, none⟩) (Nat.le_refl _) _).setCell (p := ⟨N, 1, none⟩) (Nat.le_refl _) _⟩
set_option maxRecDepth 100000 in
set_option maxHeartbeats 2000000 in
theorem refBack_any (a : Option Addr) (cap : Nat) (l : List Int) (K : Int) (w : World) (hr : RngI l) (hl : ReadsL encI w.heap.size w a l) (hlen : l.length ≤ 1000) (hk1 : -9223372036854775808 ≤ K) (hk2 : K ≤ 9223372036854775807) :
    Calls Tryd.prog 15 #[.slice a l.length cap, .int .i64 K] w fun e w' => RBackOut K l e w' ∧ Below w.heap.size w w' := by
  have HR := Lib.hid hr
  have hKl := first_le (backE K) l
  obtain ⟨i0, hi, hz0, hz1, hz2⟩ := info_of info_uint64
  have hW0 : Below w.heap.size w (w.alloc (.cells #[.slice none 0 0, .bool false] 44)) := (Below.refl _ _).alloc (Nat.le_refl _) _
  have HS : Hid (RBackRel w.heap.size (w.alloc (.cells #[.slice none 0 0, .bool false] 44)) l K 0 (.slice none 0 0) (w.alloc (.cells #[.slice none 0 0, .bool false] 44))) :=
    Lib.hid ⟨Nat.zero_le _, GrowRel.start _ _ _, TwoAt.new _ _ _ _, by simp⟩
  have HL := Lib.hid (hl.on hW0)
  have HB0 := Lib.hid hW0
  clear hl hr hW0
  go_enter Tryd.func15, Tryd.ntmps15
  go_wp2
  generalize (w.alloc (.cells #[.slice none 0 0, .bool false] 44)) = W0 at *
  go_loopw [5, 6] (fun v i wr => ∃ k : Nat, i = .int .i64 k ∧ Hid (RBackRel w.heap.size W0 l K k v wr)) (fun _ i _ => l.length - (intOf i).toNat)
  case atStart => exact ⟨0, rfl, HS⟩
  case round =>
    obtain ⟨k, rfl, HF⟩ := hrel
    have hkK := HF.out.1
    have hBr := Lib.hid (HB0.out.trans (HF.out.2.1.1.mono HB0.out.size))
    by_cases hlt : k < l.length
    · obtain ⟨b, off, rfl, hbN, hck0⟩ := HL.out.at hlt
      have hrk := HR.out k hlt
      have hck := (hBr.out.cell (p := ⟨b, off + k, none⟩) hbN)
      have hcw := (HB0.out.cell (p := ⟨b, off + k, none⟩) hbN)
      rw [← hcw, hck0] at hck
      unfold encI at hck
      have hl : (l.take k).length = k := by simp; omega
      have HX : Hid (k = firstBad (backE K) l → makeOk l[k].natAbs K = false ∧ backs K l = [] ∧ backOk K l = false) := Lib.hid (fun e => ⟨back_bad K _ (by subst e; exact Go.Proofs.YtopniihomjakoaaDoor.QuantPure.first_bad (backE K) l hlt), back_none K l k hlt e⟩)
      have HG : Hid (k < firstBad (backE K) l → makeOk l[k].natAbs K = true) := Lib.hid (fun e => back_good K _ (first_good (backE K) l k hlt e))
      have HST : Hid (∀ w2 v' w' o, RBackRel w.heap.size W0 l K k u5 w2 → k < firstBad (backE K) l → w'.ownsRow W0.heap.size 46 1 v' (k + 1) ((l.take k).map (encW K) ++ [.int .u64 (makeW (decide (l[k] < 0)) l[k].natAbs K : Int)]) → (w2.alloc o).grownBy w' u5.ownBlock → RBackRel w.heap.size W0 l K (k + 1) v' w') :=
        Lib.hid fun w2 v' w' o h hk h1 h2 => h.step hlt hk h1 h2
      have hN0 := HF.out.2.2.2
      have hW0z := HF.out.2.1.1.size
      have hNz := HF.out.2.2.1.lt
      clear hck0 hcw
      generalize l[k] = x at *
      by_cases hx : x < 0
      · have e2 : decide (x < 0) = true := decide_eq_true hx
        rw [e2] at HST
        go_wp2_with fail
        refine (refMakeZ_any false _ K (by simp only [IntKind.wrap_u64]; omega) (by simp only [IntKind.wrap_u64]; omega) hk1 hk2 _).mono ?_
        rintro e w1 ⟨rfl, hb1⟩
        generalize ((makeW false (IntKind.u64.wrap x).toNat K : Nat) : Int) = W' at *
        generalize makeOk (IntKind.u64.wrap x).toNat K = ok' at *
        have HB1 := Lib.hid hb1
        have hs1 := hb1.size
        have hf1 := HF.out.on hb1
        have HF1 := Lib.hid hf1
        have hck1 := (hb1.cell (p := ⟨b, off + k, none⟩) (by show b < wr.heap.size; omega)).trans hck
        have hbz : b < w1.heap.size := by omega
        clear hb1 hf1 hck e2
        go_wp2_with fail
        refine (refMakeZ_any true _ K (by omega) (by omega) hk1 hk2 _).mono ?_
        rw [show (-(x + 1) + 1).toNat = x.natAbs by omega]
        rintro e w2 ⟨rfl, hb2⟩
        generalize ((makeW true x.natAbs K : Nat) : Int) = W at *
        generalize makeOk x.natAbs K = ok at *
        have b1 := (Below.refl w1.heap.size w1).alloc (Nat.le_refl _) (.cells #[.int .u64 W', .bool ok'] 67)
        have ht := (TwoAt.new w1 (.int .u64 W') (.bool ok') 67).on hb2 (by simp)
        have b2 := b1.trans (hb2.mono (by simp))
        have hz2' := ht.lt
        have b3 := (b2.setCell (p := ⟨w1.heap.size, 0, none⟩) (Nat.le_refl _) (.int .u64 W)).setCell (p := ⟨w1.heap.size, 1, none⟩) (Nat.le_refl _) (.bool ok)
        have hf2 := HF1.out.on b3
        have HF2 := Lib.hid hf2
        have HB2 := Lib.hid b3
        have hs2 := b2.size
        obtain ⟨y0, y1, fy0, fy1⟩ := ht
        obtain ⟨n0, n1, nf0, nf1⟩ := HF1.out.2.2.1.on b2 HF1.out.2.2.1.lt
        have hNz2 : w.heap.size < w1.heap.size := HF1.out.2.2.1.lt
        have hne : w1.heap.size ≠ w.heap.size := by omega
        clear hb2 b1 b2 b3 hf2
        by_cases hkk : k < firstBad (backE K) l
        · have t := HG.out hkk
          subst t
          clear n0 n1 nf0 nf1
          go_wp2_with (first
            | (at_builtin; refine wpList_append_own _ rfl _ _ 22 rfl W0.heap.size 46 i0 (.int .u64 0) 1 8 Tryd.underlying22 hi hz0 hz1 hz2 rfl (by decide) u5 (l.take k).length ((l.take k).map (encW K)) rfl (HF2.out.2.1.2.alloc _) ⟨w2.heap.size, 0, none⟩ 1 1 [.int .u64 W] rfl rfl (one_newsAt (by simp)) (by intro u hu; simp at hu; subst hu; rfl) (by unfold maxLen; omega) (by omega) (by simp; omega) ?_))
          intro v' w3 hown hgrow _
          rw [← List.map_take] at hown
          have HN := Lib.hid (HST.out _ v' w3 _ HF2.out hkk hown hgrow)
          clear hown hgrow
          go_wp2
          go_roundw
          case rel => exact ⟨k + 1, by go_num, HN⟩
          case measure => simp [intOf]; omega
        · have hke := Lib.hid (show k = firstBad (backE K) l by omega)
          have hx1 := HX.out hke.out
          have t := hx1.1
          have HE := Lib.hid hx1.2
          subst t
          clear hx1
          go_wp2
          have HBF := Lib.hid ((hBr.out.trans (HB1.out.mono hBr.out.size)).trans (HB2.out.mono (by omega)))
          have HRF := Lib.hid HF2.out.2.2.1
          have HEE := rback_end (.slice none 0 0) (.bool false) HBF HRF
          obtain ⟨s0, s1, -, -⟩ := HEE.1
          refine bodyPost_ret (v := .agg #[.slice none 0 0, .bool false]) (by simp [results, Tryd.results15, go_sem, s0, s1]) rfl ⟨⟨none, 0, ?_, ?_⟩, HEE.2⟩
          · rw [HE.out.1, HE.out.2]; rfl
          · rw [HE.out.1]; exact ReadsL.nil _ _ _ _
      · have e1 : x.toNat = x.natAbs := by omega
        have e2 : decide (x < 0) = false := decide_eq_false hx
        rw [e2] at HST
        go_wp2_with fail
        refine (refMakeZ_any false x K (by omega) (by omega) hk1 hk2 _).mono ?_
        rw [e1]
        rintro e w1 ⟨rfl, hb1⟩
        generalize ((makeW false x.natAbs K : Nat) : Int) = W at *
        generalize makeOk x.natAbs K = ok at *
        have HB1 := Lib.hid hb1
        have hs1 := hb1.size
        have hf1 := HF.out.on hb1
        have hf2 := hf1.on ((Below.refl _ _).alloc (Nat.le_refl _) (.cells #[.int .u64 W, .bool ok] 67))
        have HF1 := Lib.hid hf1
        have HF2 := Lib.hid hf2
        obtain ⟨c0, c1, f0, f1⟩ := hf1.2.2.1
        have hck1 := (hb1.cell (p := ⟨b, off + k, none⟩) (by show b < wr.heap.size; omega)).trans hck
        have hbz : b < w1.heap.size := by omega
        clear hb1 hf1 hf2 hck e1 e2
        by_cases hkk : k < firstBad (backE K) l
        · have t := HG.out hkk
          subst t
          clear c0 c1 f0 f1
          go_wp2_with (first
            | (at_builtin; refine wpList_append_own _ rfl _ _ 22 rfl W0.heap.size 46 i0 (.int .u64 0) 1 8 Tryd.underlying22 hi hz0 hz1 hz2 rfl (by decide) u5 (l.take k).length ((l.take k).map (encW K)) rfl (HF2.out.2.1.2.alloc _) ⟨w1.heap.size + 1, 0, none⟩ 1 1 [.int .u64 W] rfl rfl (one_newsAt (by simp)) (by intro u hu; simp at hu; subst hu; rfl) (by unfold maxLen; omega) (by omega) (by simp; omega) ?_))
          intro v' w2 hown hgrow _
          rw [← List.map_take] at hown
          have HN := Lib.hid (HST.out _ v' w2 _ HF2.out hkk hown hgrow)
          clear hown hgrow
          go_wp2
          go_roundw
          case rel => exact ⟨k + 1, by go_num, HN⟩
          case measure => simp [intOf]; omega
        · have hke := Lib.hid (show k = firstBad (backE K) l by omega)
          have hx1 := HX.out hke.out
          have t := hx1.1
          have HE := Lib.hid hx1.2
          subst t
          have hz := HF1.out.2.2.1.lt
          clear hx1
          go_wp2
          have HBF := Lib.hid (hBr.out.trans (HB1.out.mono hBr.out.size))
          have HRF := Lib.hid HF1.out.2.2.1
          have HEE := rback_end (.slice none 0 0) (.bool false) HBF HRF
          have hlt2 := HEE.1.lt
          obtain ⟨s0, s1, -, -⟩ := HEE.1.on ((Below.refl _ _).alloc (Nat.le_refl _) (.cells #[.int .u64 W, .bool false] 67)) hlt2
          refine bodyPost_ret (v := .agg #[.slice none 0 0, .bool false]) (by simp [results, Tryd.results15, go_sem, s0, s1]) rfl ⟨⟨none, 0, ?_, ?_⟩, ?_⟩
          · rw [HE.out.1, HE.out.2]; rfl
          · rw [HE.out.1]; exact ReadsL.nil _ _ _ _
          · exact HEE.2.alloc (Nat.le_of_lt hlt2) _
    · have hke : k = l.length := by omega
      have hKe : firstBad (backE K) l = l.length := by omega
      have e1 := Lib.hid (back_all K l hKe)
      subst hke
      obtain ⟨c0, c1, f0, f1⟩ := HF.out.2.2.1
      obtain ⟨p, cap', rfl, hrd, -⟩ := HF.out.2.1.reads
      have hW := HF.out.2.1.2
      have hN := HF.out.2.2.2
      rw [List.take_length] at hrd hW ⊢
      have HW := Lib.hid hW
      clear hrd hW
      go_wp2
      obtain ⟨s0, s1, -, -⟩ := HF.out.2.2.1.set (.slice p l.length cap') (.bool true)
      refine bodyPost_ret (v := .agg #[.slice p l.length cap', .bool true]) (by simp [results, Tryd.results15, go_sem, s0, s1]) rfl ⟨⟨p, cap', ?_, ?_⟩, ?_⟩
      · rw [e1.out.1, e1.out.2, List.length_map]
      · obtain ⟨p', cap2, he, hrd, -⟩ := owns_readsL rfl (owns_setCell (owns_setCell HW.out (p := ⟨w.heap.size, 0, none⟩) hN (.slice p l.length cap')) (p := ⟨w.heap.size, 1, none⟩) hN (.bool true))
        obtain ⟨rfl, -, rfl⟩ := Value.slice.inj he
        rw [e1.out.1]
        exact ReadsL.map.1 hrd
      · exact (hBr.out.setCell (p := ⟨w.heap.size, 0, none⟩) (Nat.le_refl _) _).setCell (p := ⟨w.heap.size, 1, none⟩) (Nat.le_refl _) _
end Go.Proofs.YtopniihomjakoaaDoor
