/- Texts that the laws of this seat stand on, part 25. -/
import Derived.Test.YtceejjgmepaonaaDoorPk24
/- What all least sides between two share rises (layer 22). -/
namespace Go.Proofs.YtceejjgmepaonaaDoor.Br
open Go.RowKit Go.ChangeShapes EdPure NtPure CutPure SdPure BrPure Cm Sd
theorem oth_rises (l : List Int) : ∀ k : Nat, (othL l k).Pairwise (· < ·)
  | 0 => List.Pairwise.nil
  | k + 1 => by
    unfold othL
    rw [List.pairwise_append]
    refine ⟨oth_rises l k, by split <;> simp, fun a ha b hb => ?_⟩
    have h1 := ((oth_mem l a k).1 ha).1
    split at hb
    · simp at hb
    · rw [List.mem_singleton.1 hb]; omega
theorem orient_rises {n : Nat} {s : Int} {x : List Int} (h : x.Pairwise (· < ·)) : (orient n s x).Pairwise (· < ·) := by
  unfold orient
  split
  · exact h
  · exact oth_rises x n
theorem stepP_rises {M : List Ed} {n : Nat} {s t : Int} {best : Option (Int × List Int)} {x : List Int} (hx : x.Pairwise (· < ·)) (h : (sB best).Pairwise (· < ·)) : (sB (stepP M n s t best x)).Pairwise (· < ·) := by
  have ho := orient_rises (n := n) (s := s) hx
  unfold stepP
  split
  · exact h
  · cases best with
    | none => exact ho
    | some p =>
      obtain ⟨b, c⟩ := p
      show (sB (if _ then _ else _)).Pairwise (· < ·)
      split
      · exact ho
      · split
        · exact ho.filter _
        · exact h
theorem pairB_rises {M : List Ed} {n : Nat} {s t : Int} (L : List (List Int)) (hL : ∀ l ∈ L, l.Pairwise (· < ·)) : (sB (pairB M n s t L)).Pairwise (· < ·) := by
  have : ∀ k, k ≤ L.length → (sB (pairB M n s t (L.take k))).Pairwise (· < ·) := by
    intro k
    induction k with
    | zero => intro _; exact List.Pairwise.nil
    | succ k ih =>
      intro hk
      rw [pairB_take (by omega)]
      exact stepP_rises (hL _ (List.getElem_mem _)) (ih (by omega))
  have h := this L.length (Nat.le_refl _)
  rwa [List.take_length] at h
theorem rises_len : ∀ {l : List Int} {a b : Int}, l.Pairwise (· < ·) → (∀ v ∈ l, a ≤ v ∧ v < b) → a ≤ b → (l.length : Int) ≤ b - a
  | [], _, _, _, _, _ => by simp; omega
  | x :: r, a, b, h, hv, _ => by
    obtain ⟨h1, h2⟩ := List.pairwise_cons.1 h
    have hx := hv x (by simp)
    have := rises_len (a := x + 1) (b := b) h2 (fun v hr => ⟨by have := h1 v hr; omega, (hv v (by simp [hr])).2⟩) (by omega)
    rw [List.length_cons]
    omega
/-- A rising list that misses one has room. -/
theorem rises_miss : ∀ {l : List Int} {a b t : Int}, l.Pairwise (· < ·) → (∀ v ∈ l, a ≤ v ∧ v < b) → a ≤ t → t < b → t ∉ l → (l.length : Int) < b - a
  | [], _, _, _, _, _, _, _, _ => by simp; omega
  | x :: r, a, b, t, h, hv, h3, h4, hn => by
    have h' := h
    obtain ⟨h1, h2⟩ := List.pairwise_cons.1 h
    have hx := hv x (by simp)
    have hne : t ≠ x := fun e => hn (by simp [e])
    by_cases hlt : x < t
    · have := rises_miss (a := x + 1) (b := b) (t := t) h2 (fun v hr => ⟨by have := h1 v hr; omega, (hv v (by simp [hr])).2⟩) (by omega) h4 (fun hr => hn (by simp [hr]))
      rw [List.length_cons]
      omega
    · have := rises_len (a := x) (b := b) h' (fun v hr => ⟨by
        rcases List.mem_cons.1 hr with rfl | hr
        · exact Int.le_refl _
        · have := h1 v hr; omega, (hv v hr).2⟩) (by omega)
      omega
end Go.Proofs.YtceejjgmepaonaaDoor.Br
/- The document's matrix of least cuts (layer 22). -/
namespace Go.Proofs.YtceejjgmepaonaaDoor.Br
open Go.RowKit Go.ChangeShapes EdPure NtPure CutPure SdPure BrPure Cm Sd
/-- What the matrix tells of two. -/
def mxW (M : List Ed) (n : Nat) (s t : Nat) : Int := if s = t then 0 else wB (pairB M n (s : Int) (t : Int) (allS n))
def mxRow (M : List Ed) (n s : Nat) : List Int := (List.range n).map (mxW M n s)
def mxL (M : List Ed) (n : Nat) : Nat → List (List Int)
  | 0 => []
  | s + 1 => mxL M n s ++ [mxRow M n s]
theorem mxL_len (M : List Ed) (n : Nat) : ∀ s, (mxL M n s).length = s
  | 0 => rfl
  | s + 1 => by show (mxL M n s ++ [mxRow M n s]).length = _; rw [List.length_append, mxL_len M n s]; rfl
/-- The row while it is filled. -/
def mxC (M : List Ed) (n s k : Nat) : List Value := ((List.range n).map fun t : Nat => if t < k then mxW M n s t else 0).map encZ
theorem mxC_len (M : List Ed) (n s k : Nat) : (mxC M n s k).length = n := by unfold mxC; simp
theorem mxC_at (M : List Ed) (n s k : Nat) {t : Nat} (h : t < (mxC M n s k).length) : (mxC M n s k)[t] = .int .i64 (if t < k then mxW M n s t else 0) := by
  unfold mxC encZ
  simp
theorem mxC_zero (M : List Ed) (n s : Nat) : mxC M n s 0 = List.replicate n (.int .i64 0) := by
  refine List.ext_getElem (by rw [mxC_len]; simp) fun i h1 h2 => ?_
  rw [mxC_at]
  simp
theorem mxC_next (M : List Ed) (n s k : Nat) : (mxC M n s k).set k (.int .i64 (mxW M n s k)) = mxC M n s (k + 1) := by
  refine List.ext_getElem (by rw [List.length_set, mxC_len, mxC_len]) fun i h1 h2 => ?_
  rw [mxC_at]
  by_cases e : i = k
  · subst e
    rw [List.getElem_set_self, if_pos (by omega)]
  · rw [List.getElem_set_ne (fun x => e x.symm), mxC_at]
    by_cases h : i < k
    · rw [if_pos h, if_pos (by omega)]
    · rw [if_neg h, if_neg (by omega)]
theorem mxC_skip (M : List Ed) (n s : Nat) : mxC M n s (s + 1) = mxC M n s s := by
  refine List.ext_getElem (by rw [mxC_len, mxC_len]) fun i h1 h2 => ?_
  rw [mxC_at, mxC_at]
  by_cases e : i = s
  · subst e
    rw [if_pos (by omega), if_neg (by omega)]
    unfold mxW
    rw [if_pos rfl]
  · by_cases h : i < s
    · rw [if_pos h, if_pos (by omega)]
    · rw [if_neg h, if_neg (by omega)]
theorem mxC_all (M : List Ed) (n s : Nat) : mxC M n s n = (mxRow M n s).map encZ := by
  unfold mxC mxRow
  congr 1
  refine List.map_congr_left fun t ht => ?_
  rw [if_pos (List.mem_range.1 ht)]
/-- Rows of int64 that are gathered. -/
def MxAt (w : World) (s : Value) (vs : List Value) (L : List (List Int)) (wr : World) : Prop :=
  Below w.heap.size w wr ∧ wr.ownsRow w.heap.size 90 1 s L.length vs ∧ vs.length = L.length ∧
  ∀ (i : Nat) v l, vs[i]? = some v → L[i]? = some l → ∃ q c, v = .slice q l.length c ∧ ReadsL encZ wr.heap.size wr q l ∧ ∀ z, q = some z → w.heap.size ≤ z.block ∧ z.block < wr.heap.size ∧ s.ownBlock ≠ some z.block
theorem MxAt.start (w : World) : MxAt w (.slice none 0 0) [] [] w := ⟨Below.refl _ _, World.ownsRow_nil _ _ _ _, rfl, fun i v l h => by simp at h⟩
theorem MxAt.keep {w wr w' : World} {s : Value} {vs : List Value} {L : List (List Int)} (h : MxAt w s vs L wr) (hb : Below wr.heap.size wr w') : MxAt w s vs L w' :=
  ⟨h.1.trans (hb.mono h.1.size), owns_below h.2.1 hb, h.2.2.1, fun i v l hv hl => by
    obtain ⟨q, c, e, hr, hq⟩ := h.2.2.2 i v l hv hl
    exact ⟨q, c, e, hr.over hb (Nat.le_refl _), fun z hz => ⟨(hq z hz).1, Nat.lt_of_lt_of_le (hq z hz).2.1 hb.size, (hq z hz).2.2⟩⟩⟩
theorem MxAt.push {w wr w1 w' : World} {s s' : Value} {vs : List Value} {L : List (List Int)} {g c : Nat} {l : List Int} (h : MxAt w s vs L wr) (hb : Below wr.heap.size wr w1) (hr : ReadsL encZ w1.heap.size w1 (some ⟨g, 0, none⟩) l) (hq : wr.heap.size ≤ g) (hg1 : g < w1.heap.size)
    (hown : w'.ownsRow w.heap.size 90 1 s' (L.length + 1) (vs ++ [.slice (some ⟨g, 0, none⟩) l.length c])) (hg : w1.grownBy w' s.ownBlock) (hat : s'.ownBlock = s.ownBlock ∨ s'.ownBlock = some w1.heap.size) : MxAt w s' (vs ++ [.slice (some ⟨g, 0, none⟩) l.length c]) (L ++ [l]) w' := by
  have h' := h.keep hb
  obtain ⟨h1, h2, h3, h4⟩ := h'
  have hz := h.1.size
  have hsl := fun k hk => h.2.1.lt k hk
  have keepR : ∀ (q : Option Addr) (r : List Int), ReadsL encZ w1.heap.size w1 q r → (∀ z, q = some z → s.ownBlock ≠ some z.block) → ReadsL encZ w'.heap.size w' q r := fun q r hr hne => by
    rcases hr with e | ⟨b, off, rfl, hN, hc⟩
    · exact Or.inl e
    · refine Or.inr ⟨b, off, rfl, Nat.lt_of_lt_of_le hN hg.size, fun i hi => ?_⟩
      exact (World.cell?_of_block (hg.block b hN fun e => hne _ rfl e.symm)).trans (hc i hi)
  have newB : ∀ (q : Option Addr), (∀ z, q = some z → s.ownBlock ≠ some z.block) → (∀ z, q = some z → z.block < w1.heap.size) → ∀ z, q = some z → s'.ownBlock ≠ some z.block := fun q h5 h6 z hz => by
    rcases hat with e | e
    · rw [e]; exact h5 z hz
    · rw [e]; intro e2; have := Option.some.inj e2; have := h6 z hz; omega
  refine ⟨h1.grown hg h1.size fun k hk => (h2.lt k hk).1, by rw [List.length_append]; exact hown, by rw [List.length_append, List.length_append, h3]; rfl, fun i v r hv hr' => ?_⟩
  rcases Nat.lt_or_ge i vs.length with e | e
  · rw [List.getElem?_append_left e] at hv
    rw [List.getElem?_append_left (by omega)] at hr'
    obtain ⟨q, c', e1, e2, e3⟩ := h4 i v r hv hr'
    exact ⟨q, c', e1, keepR q r e2 fun z hz => (e3 z hz).2.2, fun z hz => ⟨(e3 z hz).1, Nat.lt_of_lt_of_le (e3 z hz).2.1 hg.size, newB q (fun z hz => (e3 z hz).2.2) (fun z hz => (e3 z hz).2.1) z hz⟩⟩
  · rw [List.getElem?_append_right e] at hv
    rw [List.getElem?_append_right (by omega)] at hr'
    have hi := (List.getElem?_eq_some_iff.1 hv).1
    have e0 : i - vs.length = 0 := by simpa using hi
    rw [e0] at hv
    rw [← h3, e0] at hr'
    simp at hv hr'
    subst hv; subst hr'
    have hne : ∀ z, (some ⟨g, 0, none⟩ : Option Addr) = some z → s.ownBlock ≠ some z.block := fun z hz e => by
      cases hz
      have := (hsl g e).2
      omega
    exact ⟨_, c, rfl, keepR _ _ hr hne, fun z hz => ⟨by cases hz; show w.heap.size ≤ g; omega, by cases hz; exact Nat.lt_of_lt_of_le hg1 hg.size, newB _ hne (fun z hz => by cases hz; exact hg1) z hz⟩⟩
theorem MxAt.rows {w wr : World} {s : Value} {vs : List Value} {L : List (List Int)} (h : MxAt w s vs L wr) : ∃ a c, s = .slice a L.length c ∧ RowsAt w.heap.size wr a L := by
  obtain ⟨h1, h2, h3, h4⟩ := h
  by_cases h0 : 0 < L.length
  · have h2' := h2
    have hlt := h2.lt
    rcases h2.2 with ⟨-, e⟩ | ⟨g, cap, cur, rfl, hg, -⟩
    · omega
    · refine ⟨_, cap, rfl, Or.inr ⟨g, 0, rfl, hg, (hlt g rfl).2, fun i l hl => ?_⟩⟩
      have hi := (List.getElem?_eq_some_iff.1 hl).1
      have hv : vs[i]? = some vs[i] := List.getElem?_eq_getElem (by omega)
      obtain ⟨q, c, e, hr, hq⟩ := h4 i _ l hv hl
      refine ⟨q, c, ?_, hr, fun z hz => (hq z hz).1⟩
      rw [Nat.zero_add, h2'.cellAt i (by omega), hv, e]
  · have e : L = [] := List.length_eq_zero_iff.1 (by omega)
    subst e
    rcases h2.2 with ⟨rfl, -⟩ | ⟨g, cap, cur, rfl, -⟩
    · exact ⟨none, 0, rfl, Or.inl rfl⟩
    · exact ⟨_, cap, rfl, Or.inl rfl⟩
theorem info_rows64 : (Tryd.prog.info? 90).map (fun i => (i.zero, i.size, i.bytes)) = some (some (.slice none 0 0), 1, 24) := by kernel_rfl
@[go_sem] theorem got_c (x y z : Value) (w : World) : (Instr.field 40 (.agg #[x, y, z]) 0).run Tryd.prog w = .ok (.agg #[x, y]) w := by kernel_rfl
@[go_sem] theorem cut_w (x y : Value) (w : World) : (Instr.field 31 (.agg #[x, y]) 0).run Tryd.prog w = .ok x w := by kernel_rfl
/-- A row in block G while it is filled, behind the world V. -/
def MxIn (V : World) (M : List Ed) (n s k : Nat) (wr : World) : Prop := Below V.heap.size V wr ∧ RowIs V.heap.size wr (mxC M n s k) ∧ V.heap.size < wr.heap.size
theorem MxIn.keep {V wr w' : World} {M : List Ed} {n s k : Nat} (h : MxIn V M n s k wr) (hb : Below wr.heap.size wr w') : MxIn V M n s k w' :=
  ⟨h.1.trans (hb.mono h.1.size), h.2.1.on hb h.2.2, Nat.lt_of_lt_of_le h.2.2 hb.size⟩
theorem MxIn.put {V wr : World} {M : List Ed} {n s k : Nat} (h : MxIn V M n s k wr) (hk : k < n) : MxIn V M n s (k + 1) (wr.setCell ⟨V.heap.size, k, none⟩ (.int .i64 (mxW M n s k))) :=
  ⟨h.1.setCell (p := ⟨V.heap.size, k, none⟩) (Nat.le_refl _) _, by rw [← mxC_next]; exact h.2.1.set (by rw [mxC_len]; exact hk) _, by simpa using h.2.2⟩
set_option maxRecDepth 100000 in
set_option maxHeartbeats 8000000 in
theorem refMatrix_any (n : Nat) (hn20 : n ≤ 20) (a : Option Addr) (c : Nat) (M : List Ed) (hm : M.length ≤ 100000) (hn : NonNeg M) (ha : allW M ≤ 2251799813685248) (w : World) (hR : ReadsE w.heap.size w a M) :
    Calls Tryd.prog 13 #[.agg #[.int .i64 (n : Int), .slice a M.length c]] w fun e w' => RowsO (mxL M n n) w e w' := by
  have HS : Hid (BoxSt w w.heap.size (n : Int) a c M (w.alloc (.cells #[.int .i64 (n : Int), .slice a M.length c] 35))) := Lib.hid (BoxSt.start hR)
  obtain ⟨tr, hr1, hr2, hr3, hr4⟩ := info_parts info_rows64
  have HP := Lib.hid (fun (s t : Nat) (h1 : s < n) (h2 : t < n) (h3 : s ≠ t) w hR => refPair_any n hn20 a c M hm hn ha (s : Int) (t : Int) (by omega) (by omega) (by omega) w hR)
  have HMK := Lib.hid (fun w => makeRow (P := Tryd.prog) (T := 90) (E := 2) (z := .int .i64 0) (c := 8) Tryd.underlying90 (by kernel_rfl) (by decide) rfl n (by omega) w)
  have HX0 : Hid (w.heap.size ≤ (w.alloc (.cells #[.int .i64 (n : Int), .slice a M.length c] 35)).heap.size) := Lib.hid HS.out.1.size
  clear hR hn
  go_enter Tryd.func13, Tryd.ntmps13
  go_upto_region 2 with fail
  generalize w.alloc (.cells #[.int .i64 (n : Int), .slice a M.length c] 35) = W0 at *
  generalize hX : w.heap.size = X at *
  have HX := Lib.hid hX
  clear hX
  have HF0 : Hid (MxAt W0 (.slice none 0 0) [] (mxL M n 0) W0) := Lib.hid (MxAt.start W0)
  go_wp2
  go_loopw [3, 4] (fun sv i wr => ∃ (s : Nat) (v : Value) (vs : List Value), v = sv ∧ i = .int .i64 (s : Int) ∧ s ≤ n ∧ Hid (MxAt W0 v vs (mxL M n s) wr)) (fun _ i _ => n - (intOf i).toNat)
  case atStart => exact ⟨0, _, [], rfl, rfl, Nat.zero_le _, HF0⟩
  case round =>
    clear HF0
    obtain ⟨s, v, vs, rfl, rfl, hs, HF⟩ := hrel
    have HB := Lib.hid (HS.out.keep HF.out.1)
    obtain ⟨b0, b1, -, -⟩ := HB.out.2.1
    have bl := HB.out.2.1.lt
    by_cases hlt : s < n
    · have i1 : (s : Int) < (n : Int) := by omega
      obtain ⟨V, hV⟩ : ∃ V, V = wr := ⟨_, rfl⟩
      subst hV
      have hmk := HMK.out V
      have hbA := (Below.refl V.heap.size V).alloc (Nat.le_refl _) (.cells (madeCells #[.int .i64 0] n) 2)
      have HI0 : Hid (MxIn V M n s 0 (V.alloc (.cells (madeCells #[.int .i64 0] n) 2))) := Lib.hid ⟨hbA, by rw [mxC_zero]; exact rowIs_made V (.int .i64 0) n 2, by simp⟩
      clear hbA
      go_wp2
      generalize V.alloc (.cells (madeCells #[.int .i64 0] n) 2) = V1 at *
      generalize hG : V.heap.size = G at *
      have HG := Lib.hid hG
      clear hG hmk b0 b1 bl
      go_loopw [6] (fun i wr => ∃ t : Nat, i = .int .i64 (t : Int) ∧ t ≤ n ∧ Hid (MxIn V M n s t wr)) (fun i _ => n - (intOf i).toNat)
      case atStart => exact ⟨0, rfl, Nat.zero_le _, HI0⟩
      case round =>
        clear HI0
        obtain ⟨t, rfl, ht, HI⟩ := hrel
        have HB2 := Lib.hid (HB.out.keep HI.out.1)
        obtain ⟨b0, b1, -, -⟩ := HB2.out.2.1
        have bl := HB2.out.2.1.lt
        by_cases htn : t < n
        · have i2 : (t : Int) < (n : Int) := by omega
          by_cases hst : s = t
          · have t1 : ((s : Int) != (t : Int)) = false := by simp [hst]
            have HI2 : Hid (MxIn V M n s (t + 1) wr) := Lib.hid (by
              have h := HI.out
              unfold MxIn at h ⊢
              rw [← hst] at h ⊢
              rw [mxC_skip]
              exact h)
            go_wp2
            go_roundw
            case rel => exact ⟨t + 1, by go_num, htn, HI2⟩
            case measure => simp [intOf]; omega
          · have t1 : ((s : Int) != (t : Int)) = true := by rw [bne_iff_ne]; omega
            have HPC := Lib.hid (HP.out s t hlt htn hst wr HB2.out.2.2)
            have HWW : Hid (mxW M n s t = wB (pairB M n (s : Int) (t : Int) (allS n))) := Lib.hid (if_neg hst)
            unfold GotO at HPC
            go_wp2_with fail
            refine HPC.out.mono ?_
            rintro e w3 ⟨hb3, q3, c3, rfl, -⟩
            have HI3 := Lib.hid (HI.out.keep hb3)
            obtain ⟨hc3, hf3⟩ := HI3.out.2.1 t (by rw [mxC_len]; exact htn)
            have hGl := HI3.out.2.2
            have HPT := Lib.hid (HI3.out.put htn)
            rw [mxC_at] at hc3
            rw [HG.out] at hc3 hf3 hGl
            have HPT2 : Hid (MxIn V M n s (t + 1) (w3.setCell ⟨G, t, none⟩ (.int .i64 (wB (pairB M n (s : Int) (t : Int) (allS n)))))) := Lib.hid (by
              have h := HPT.out
              rw [HG.out, HWW.out] at h
              exact h)
            generalize wB (pairB M n (s : Int) (t : Int) (allS n)) = y at *
            clear hb3 HI HPC HPT HI3 b0 b1 bl HWW
            go_wp2
            go_roundw
            case rel => exact ⟨t + 1, by go_num, htn, HPT2⟩
            case measure => simp [intOf]; omega
        · have i2 : ¬ (t : Int) < (n : Int) := by omega
          have hte : t = n := by omega
          subst hte
          have HRW : Hid (ReadsL encZ wr.heap.size wr (some ⟨G, 0, none⟩) (mxRow M t s)) := Lib.hid (by
            have h := HI.out.2.1
            rw [mxC_all, HG.out] at h
            exact h.reads)
          have HRL : Hid ((mxRow M t s).length = t) := Lib.hid (by unfold mxRow; simp)
          have hml : (mxL M t s).length ≤ 20 := by rw [mxL_len]; omega
          have HMS : Hid (mxL M t (s + 1) = mxL M t s ++ [mxRow M t s]) := Lib.hid rfl
          have hgl : G < wr.heap.size := by have h := HI.out.2.2; rw [HG.out] at h; exact h
          have HOW := Lib.hid ((HF.out.keep HI.out.1).2.1)
          have hsz : W0.heap.size ≤ wr.heap.size := (HF.out.keep HI.out.1).1.size
          have hvg := HG.out
          generalize mxL M t s = L at *
          generalize mxRow M t s = r at *
          have hrl := HRL.out
          subst hrl
          go_wp2_with (first
            | (at_builtin; refine wpList_append_own_at _ rfl _ _ 42 rfl W0.heap.size 90 tr (.slice none 0 0) 1 24 Tryd.underlying42 hr1 hr2 hr3 hr4 rfl (by decide) v L.length vs rfl (HOW.out.alloc _) ⟨wr.heap.size, 0, none⟩ 1 1 [.slice (some ⟨G, 0, none⟩) r.length r.length] rfl rfl one_news (by intro u' hu; simp at hu; subst hu; rfl) (by unfold maxLen; omega) (by omega) (by simp; omega) ?_; intro v' w6 hown6 hg6 _ hat6; have HS6 := Lib.hid (HF.out.push (HI.out.1.alloc HI.out.1.size _) (HRW.out.over ((Below.refl _ _).alloc (Nat.le_refl _) _) (Nat.le_refl _)) (by omega) (by simp; omega) hown6 hg6 hat6); rw [← HMS.out] at HS6; clear hown6 hg6 hat6))
          go_roundw
          case rel => exact ⟨s + 1, v', _, rfl, by go_num, hlt, HS6⟩
          case measure => simp [intOf]; omega
    · have i1 : ¬ (s : Int) < (n : Int) := by omega
      have hse : s = n := by omega
      subst hse
      obtain ⟨q, cq, rfl, hq⟩ := HF.out.rows
      have HRR := Lib.hid hq
      have HBB := Lib.hid (HS.out.1.trans (HF.out.1.mono HS.out.1.size))
      clear hq HF
      go_wp2
      go_ret
      unfold RowsO
      exact ⟨HBB.out, q, cq, rfl, rows_mono HRR.out (by have := HX0.out; have := HX.out; omega)⟩
end Go.Proofs.YtceejjgmepaonaaDoor.Br
/- What the program must answer (layer 22). -/
namespace Go.Proofs.YtceejjgmepaonaaDoor.Br
open Go.RowKit Go.ChangeShapes EdPure NtPure CutPure SdPure BrPure Cm Sd
theorem small_zero {N : Nat} : smallE (N : Int) = 0 ↔ 2 ≤ N ∧ N ≤ 20 := by
  unfold smallE
  split
  · omega
  · split <;> omega
def lsW (N : Nat) (M : List Ed) : Int := if smallE (N : Int) = 0 then wB (leastB M (allS N)) else 0
def lsS (N : Nat) (M : List Ed) : List Int := if smallE (N : Int) = 0 then sB (leastB M (allS N)) else []
def lsC (N : Nat) (M : List Ed) : Nat := if smallE (N : Int) = 0 then (pickW M (wB (leastB M (allS N))) (allS N)).length else 0
def lsA (N : Nat) (M : List Ed) (x : Int) : List (List Int) := if smallE (N : Int) = 0 then pickW M x (allS N) else []
def prE (N : Nat) (s t : Int) : Int := if bothE (N : Int) s t = 0 then (if 20 < N then 3 else 0) else bothE (N : Int) s t
def prW (N : Nat) (M : List Ed) (s t : Int) : Int := if prE N s t = 0 then wB (pairB M N s t (allS N)) else 0
def prS (N : Nat) (M : List Ed) (s t : Int) : List Int := if prE N s t = 0 then sB (pairB M N s t (allS N)) else []
def mxE (N : Nat) : Int := if 20 < N then 3 else 0
def mxM (N : Nat) (M : List Ed) : List (List Int) := if 20 < N then [] else mxL M N N
/-- Rows, and why there are none. -/
def RowsE (L : List (List Int)) (z : Int) (w : World) (e : Ending) (w' : World) : Prop := Below w.heap.size w w' ∧ ∃ q d M0, e = .returned (.tuple #[.slice q L.length d, .int .i64 z]) ∧ RowsAt M0 w' q L
/-- Rows that were told. -/
def RowsTold (q : Option Addr) (L : List (List Int)) (W : World) : Prop := ∃ M0, RowsAt M0 W q L
theorem RowsTold.keep {q : Option Addr} {L : List (List Int)} {W W' : World} (h : RowsTold q L W) (hb : Below W.heap.size W W') : RowsTold q L W' := by
  obtain ⟨M0, h⟩ := h
  exact ⟨M0, h.keep hb⟩
theorem both_zero {N : Nat} {s t : Int} (h : bothE (N : Int) s t = 0) : (0 ≤ s ∧ s < N) ∧ (0 ≤ t ∧ t < N) ∧ s ≠ t := by
  unfold bothE at h
  split at h
  · next h1 =>
    split at h
    · cases h
    · next h2 => exact ⟨⟨h1.1, h1.2.1⟩, ⟨h1.2.2.1, h1.2.2.2⟩, h2⟩
  · cases h
/-- The least side of all is a side, and weighs what is told. -/
theorem least_side {N : Nat} (h2 : 2 ≤ N) {M : List Ed} : ∃ b x, leastB M (allS N) = some (b, x) ∧ OkB M (some (b, x)) (allS N) ∧ chkS (N : Int) x = 0 ∧ cutW M (inS x) = b := by
  have h := leastB_ok M (allS N)
  cases hb : leastB M (allS N) with
  | none =>
    rw [hb] at h
    exact absurd h (all_some h2)
  | some p =>
    obtain ⟨b, x⟩ := p
    rw [hb] at h
    exact ⟨b, x, rfl, h, (all_right h.1).1, h.2.1.symm⟩
theorem all_mem_len {n : Nat} (h : n ≤ 20) {l : List Int} (hl : l ∈ allS n) : l.length ≤ 20 := by
  obtain ⟨k, hk, rfl⟩ := List.mem_iff_getElem.1 hl
  exact all_short h hk
theorem least_len {N : Nat} (h2 : 2 ≤ N) (h20 : N ≤ 20) (M : List Ed) : (sB (leastB M (allS N))).length ≤ 20 := by
  obtain ⟨b, x, e, h, -⟩ := least_side (M := M) h2
  rw [e]
  exact all_mem_len h20 h.1
theorem pick_few {N : Nat} (h20 : N ≤ 20) (M : List Ed) (x : Int) : (pickW M x (allS N)).length ≤ 1000000 ∧ ∀ l ∈ pickW M x (allS N), l.length ≤ 1000000 := by
  refine ⟨?_, fun l hl => ?_⟩
  · have h1 := List.length_filter_le (fun s => decide (cutW M (inS s) = x)) (allS N)
    have h2 := all_few h20
    unfold pickW
    omega
  · have := all_mem_len h20 (List.mem_filter.1 hl).1
    omega
theorem stepP_len {M : List Ed} {n : Nat} {s t : Int} {best : Option (Int × List Int)} {x : List Int} (hn : n ≤ 20) (hx : x.length ≤ 20) (h : (sB best).length ≤ 20) : (sB (stepP M n s t best x)).length ≤ 20 := by
  have ho : (orient n s x).length ≤ 20 := by
    unfold orient
    split
    · exact hx
    · exact Nat.le_trans (oth_len x n) hn
  unfold stepP
  split
  · exact h
  · cases best with
    | none => exact ho
    | some p =>
      obtain ⟨b, c⟩ := p
      show (sB (if _ then _ else _)).length ≤ 20
      split
      · exact ho
      · split
        · exact Nat.le_trans (List.length_filter_le _ _) ho
        · exact h
theorem pairB_len {M : List Ed} {n : Nat} {s t : Int} (hn : n ≤ 20) (L : List (List Int)) (hL : ∀ l ∈ L, l.length ≤ 20) : (sB (pairB M n s t L)).length ≤ 20 := by
  have : ∀ k, k ≤ L.length → (sB (pairB M n s t (L.take k))).length ≤ 20 := by
    intro k
    induction k with
    | zero => intro _; exact Nat.zero_le _
    | succ k ih =>
      intro hk
      rw [pairB_take (by omega)]
      exact stepP_len hn (hL _ (List.getElem_mem _)) (ih (by omega))
  have h := this L.length (Nat.le_refl _)
  rwa [List.take_length] at h
theorem prS_len (N : Nat) (M : List Ed) (s t : Int) : (prS N M s t).length ≤ 20 := by
  unfold prS
  split
  · next h =>
    have h20 : N ≤ 20 := by
      unfold prE at h
      split at h
      · split at h
        · cases h
        · omega
      · next h1 => exact absurd h h1
    exact pairB_len h20 _ fun l hl => all_mem_len h20 hl
  · exact Nat.zero_le _
theorem mxL_few (M : List Ed) {n : Nat} (hn : n ≤ 20) : (mxL M n n).length ≤ 1000000 ∧ ∀ l ∈ mxL M n n, l.length ≤ 1000000 := by
  refine ⟨by rw [mxL_len]; omega, ?_⟩
  have : ∀ s, ∀ l ∈ mxL M n s, l.length ≤ 1000000 := by
    intro s
    induction s with
    | zero => intro l hl; simp [mxL] at hl
    | succ s ih =>
      intro l hl
      rcases List.mem_append.1 hl with h | h
      · exact ih l h
      · rw [List.mem_singleton.1 h]
        unfold mxRow
        simp
        omega
  exact this n
theorem refPairU_any (N : Nat) (a : Option Addr) (c : Nat) (M : List Ed) (hm : M.length ≤ 100000) (hn : NonNeg M) (ha : allW M ≤ 2251799813685248) (s t : Int) (w : World) (hR : ReadsE w.heap.size w a M) :
    Calls Tryd.prog 9 #[.agg #[.int .i64 (N : Int), .slice a M.length c], .int .i64 s, .int .i64 t] w fun e w' => GotO (prW N M s t) (prS N M s t) (prE N s t) w e w' := by
  unfold prW prS prE
  by_cases h : bothE (N : Int) s t = 0
  · obtain ⟨h1, h2, h3⟩ := both_zero h
    rw [if_pos h]
    by_cases h20 : 20 < N
    · rw [if_pos h20, if_neg (by omega), if_neg (by omega)]
      exact refPairLong_any N h20 a c M s t h w hR
    · rw [if_neg h20, if_pos rfl, if_pos rfl]
      exact refPair_any N (by omega) a c M hm hn ha s t h1 h2 h3 w hR
  · rw [if_neg h, if_neg h, if_neg h]
    exact refPairNo_any N a c M s t h w hR
theorem rows_told {L : List (List Int)} {w : World} {e : Ending} {w' : World} (h : RowsO L w e w') : Below w.heap.size w w' ∧ ∃ q d, e = .returned (.slice q L.length d) ∧ RowsTold q L w' := by
  obtain ⟨hb, q, d, he, hr⟩ := h
  exact ⟨hb, q, d, he, _, hr⟩
end Go.Proofs.YtceejjgmepaonaaDoor.Br
