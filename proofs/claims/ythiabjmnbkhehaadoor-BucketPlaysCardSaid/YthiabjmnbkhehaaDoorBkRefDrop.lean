/- Contract of the document's Drop of a row of buckets. -/
import Derived.Test.YthiabjmnbkhehaaDoorBkRefHigh
namespace Go.Proofs.YthiabjmnbkhehaaDoor
open Go.RowKit Go.ChangeShapes BkPure
theorem fsts_snoc (E : List (Nat × Nat)) (p : Nat × Nat) : fsts (E ++ [p]) = fsts E ++ [(p.1 : Int)] := by unfold fsts; rw [List.map_append]; rfl
theorem snds_snoc (E : List (Nat × Nat)) (p : Nat × Nat) : snds (E ++ [p]) = snds E ++ [(p.2 : Int)] := by unfold snds; rw [List.map_append]; rfl
theorem drop_snoc (E : List (Nat × Nat)) (p : Nat × Nat) (v : Int) : dropD (E ++ [p]) v = dropD E v ++ (if (p.1 : Int) = v then [] else [p]) := by
  unfold dropD
  rw [List.filter_append, List.filter_cons, List.filter_nil]
  by_cases h : (p.1 : Int) = v <;> simp [h]
theorem drop_le (E : List (Nat × Nat)) (v : Int) : (dropD E v).length ≤ E.length := List.length_filter_le _ _
/-- Two lists that a call gathers, apart from each other. -/
def DrR (w0 : World) (E E2 : List (Nat × Nat)) (s1 s2 : Value) (W : World) : Prop :=
  Below w0.heap.size w0 W ∧ W.ownsRow w0.heap.size 3 1 s1 E.length ((fsts E).map encZ) ∧ W.ownsRow w0.heap.size 3 1 s2 E2.length ((snds E2).map encZ) ∧ (∀ x, s1.ownBlock = some x → s2.ownBlock ≠ some x) ∧ (E = [] → s1 = .slice none 0 0) ∧ (E2 = [] → s2 = .slice none 0 0)
section
variable {w0 W w6 : World} {E E2 : List (Nat × Nat)} {s1 s2 v' : Value} {p : Nat × Nat} {o : Obj}
theorem DrR.start (w : World) : DrR w [] [] (.slice none 0 0) (.slice none 0 0) w := ⟨Below.refl _ _, World.ownsRow_nil _ _ _ _, World.ownsRow_nil _ _ _ _, fun x e => by simp [Value.ownBlock] at e, fun _ => rfl, fun _ => rfl⟩
theorem DrR.one (h : DrR w0 E E2 s1 s2 W) (hown : w6.ownsRow w0.heap.size 3 1 v' (E.length + 1) ((fsts E).map encZ ++ [.int .i64 (p.1 : Int)])) (hg : (W.alloc o).grownBy w6 s1.ownBlock) (hat : v'.ownBlock = s1.ownBlock ∨ v'.ownBlock = some (W.alloc o).heap.size) :
    DrR w0 (E ++ [p]) E2 v' s2 w6 := by
  obtain ⟨h1, h2, h3, h4, h5, h6⟩ := h
  have ha := (Below.refl W.heap.size W).alloc (Nat.le_refl _) o
  have l2 := h3.lt
  refine ⟨(h1.alloc h1.size o).grown hg (h1.alloc h1.size o).size fun j hj => (h2.lt j hj).1, ?_, ?_, fun x e e2 => ?_, fun e => by simp at e, h6⟩
  · rw [fsts_snoc, List.length_append, List.map_append]; exact hown
  · exact owns_same (owns_below h3 ha) (fun k e => hg.block k (by have := (l2 k e).2; simp; omega) (fun e2 => h4 k e2.symm e))
  · rcases hat with e3 | e3
    · rw [e3] at e; exact h4 x e e2
    · rw [e3] at e
      cases e
      have := (l2 _ e2).2
      simp at this
      omega
theorem DrR.two (h : DrR w0 E E2 s1 s2 W) (hown : w6.ownsRow w0.heap.size 3 1 v' (E2.length + 1) ((snds E2).map encZ ++ [.int .i64 (p.2 : Int)])) (hg : (W.alloc o).grownBy w6 s2.ownBlock) (hat : v'.ownBlock = s2.ownBlock ∨ v'.ownBlock = some (W.alloc o).heap.size) :
    DrR w0 E (E2 ++ [p]) s1 v' w6 := by
  obtain ⟨h1, h2, h3, h4, h5, h6⟩ := h
  have ha := (Below.refl W.heap.size W).alloc (Nat.le_refl _) o
  have l1 := h2.lt
  refine ⟨(h1.alloc h1.size o).grown hg (h1.alloc h1.size o).size fun j hj => (h3.lt j hj).1, ?_, ?_, fun x e e2 => ?_, h5, fun e => by simp at e⟩
  · exact owns_same (owns_below h2 ha) (fun k e => hg.block k (by have := (l1 k e).2; simp; omega) (fun e2 => h4 k e e2.symm))
  · rw [snds_snoc, List.length_append, List.map_append]; exact hown
  · rcases hat with e3 | e3
    · rw [e3] at e2; exact h4 x e e2
    · rw [e3] at e2
      cases e2
      have := (l1 _ e).2
      simp at this
      omega
/-- Both lists are laid into the row. -/
theorem DrR.lay {T : Nat → Prop} {b N : Nat} {D : List (Nat × Nat)} (h : DrR w0 E E s1 s2 W) (hr : RfB T b N D w0) (ho : Once N E) :
    Turn (fun k => k = b) w0 ((W.setCell ⟨b, 1, none⟩ s1).setCell ⟨b, 2, none⟩ s2) ∧ RfB T b N E ((W.setCell ⟨b, 1, none⟩ s1).setCell ⟨b, 2, none⟩ s2) := by
  obtain ⟨h1, h2, h3, h4, h5, h6⟩ := h
  obtain ⟨r0, r1, vV, vL, r2, r3, r4, r5, r6, r7, -⟩ := hr
  have hb := r2.lt
  have t : Turn (fun k => k = b) w0 ((W.setCell ⟨b, 1, none⟩ s1).setCell ⟨b, 2, none⟩ s2) := ((Turn.ofBelow (O := fun k => k = b) h1).trans (Turn.cell (O := fun k => k = b) W 1 s1 rfl) (fun _ e => Or.inl e)).trans (Turn.cell (O := fun k => k = b) _ 2 s2 rfl) (fun _ e => Or.inl e)
  have q := r2.on h1 hb
  have l1 := h2.lt
  have l2 := h3.lt
  refine ⟨t, r0, ho, s1, s2, ?_, owns_mono (owns_setCell (owns_setCell h2 (p := ⟨b, 1, none⟩) hb _) (p := ⟨b, 2, none⟩) hb _) (Nat.zero_le _), owns_mono (owns_setCell (owns_setCell h3 (p := ⟨b, 1, none⟩) hb _) (p := ⟨b, 2, none⟩) hb _) (Nat.zero_le _), fun k e => ?_, r6, fun k e => Nat.lt_of_lt_of_le (r7 k e) t.size, fun e => ⟨h5 e, h6 e⟩⟩
  · obtain ⟨q0, q1, q2, f0, f1, f2⟩ := q
    have q1' : (W.setCell ⟨b, 1, none⟩ s1).cell? ⟨b, 1, none⟩ = some s1 := World.cell?_setCell_same _ _ _ q1
    have q2' : (W.setCell ⟨b, 1, none⟩ s1).cell? ⟨b, 2, none⟩ = some vL := (World.cell?_setCell_other W ⟨b, 1, none⟩ ⟨b, 2, none⟩ _ (by simp)).trans q2
    refine ⟨(World.cell?_setCell_other _ ⟨b, 2, none⟩ ⟨b, 0, none⟩ _ (by simp)).trans ((World.cell?_setCell_other W ⟨b, 1, none⟩ ⟨b, 0, none⟩ _ (by simp)).trans q0), (World.cell?_setCell_other _ ⟨b, 2, none⟩ ⟨b, 1, none⟩ _ (by simp)).trans q1', World.cell?_setCell_same _ _ _ q2', ?_, ?_, ?_⟩
    · simpa using f0
    · simpa using f1
    · simpa using f2
  · have hk : w0.heap.size ≤ k := by
      rcases e with e | e
      · exact (l1 k e).1
      · exact (l2 k e).1
    exact ⟨by omega, fun e => by have := r7 k e; omega⟩
end
section
variable {T : Nat → Prop} {b N : Nat} {D : List (Nat × Nat)} {W W' : World}
theorem drop_lt (h : Once N D) (v : Int) : (wasD D v = true ∧ (dropD D v).length < D.length) ∨ (wasD D v = false ∧ (dropD D v).length = D.length) := by
  cases hw : wasD D v with
  | true =>
    have := drop_len h (of_decide_eq_true hw)
    exact Or.inl ⟨rfl, by omega⟩
  | false =>
    refine Or.inr ⟨rfl, ?_⟩
    rcases lab_cases D v with ⟨-, hn⟩ | ⟨u, L, e, hl, -⟩
    · rw [drop_none hn]
    · have := was_iff.1 hw
      omega
set_option maxRecDepth 100000 in
set_option maxHeartbeats 4000000 in
theorem dropR_run (W : World) (v : Int) (h : RfB T b N D W) :
    Calls Tryd.prog 11 #[.pointer (some ⟨b, 0, none⟩), .int .i64 v] W fun e W' => e = .returned (.bool (wasD D v)) ∧ Turn (fun k => k = b) W W' ∧ RfB T b N (dropD D v) W' := by
  have HR := Lib.hid h
  have hle := h.once.2.2
  have HO := Lib.hid h.once.2.1
  obtain ⟨i, hi1, hi2, hi3, hi4⟩ := info_int
  clear h
  go_enter Tryd.func11, Tryd.ntmps11
  go_wp2
  go_loopw [5, 6, 7] (fun a c x wr => ∃ (k : Nat) (s1 s2 : Value), k ≤ D.length ∧ x = .int .i64 k ∧ s1 = a ∧ s2 = c ∧ Hid (DrR W (dropD (D.take k) v) (dropD (D.take k) v) s1 s2 wr)) (fun _ _ x _ => D.length - (intOf x).toNat)
  case atStart => exact ⟨0, _, _, Nat.zero_le _, rfl, rfl, rfl, Lib.hid (DrR.start W)⟩
  case round =>
    obtain ⟨k, s1, s2, hk, rfl, rfl, rfl, HK⟩ := hrel
    have i0 : (0 : Int) ≤ (k : Int) := by omega
    by_cases hlt : k < D.length
    · have i1 : (k : Int) < (D.length : Int) := by omega
      obtain ⟨q, c, q', c', ⟨c0, c1, c2⟩, hb, hat⟩ := (HR.out.keep HK.out.1).cells
      obtain ⟨g, g', rfl, rfl, ⟨hg, hg'⟩, p, hp, d0, d1⟩ := hat wr (Below.refl _ _) k hlt
      have HN : Hid (dropD (D.take (k + 1)) v = dropD (D.take k) v ++ (if (p.1 : Int) = v then [] else [p])) := Lib.hid (by rw [take_at' hp]; exact drop_snoc _ _ _)
      have hlen : (dropD (D.take k) v).length ≤ 4096 := by
        have := drop_le (D.take k) v
        rw [List.length_take] at this
        omega
      have hsz := HK.out.1.size
      by_cases he : (p.1 : Int) = v
      · have HU : Hid (dropD (D.take (k + 1)) v = dropD (D.take k) v) := Lib.hid (by rw [HN.out, if_pos he]; exact List.append_nil _)
        have t : ((p.1 : Int) != v) = false := by rw [he]; exact bne_self_eq_false _
        clear HN he hat hp
        generalize (p.1 : Int) = x at *
        generalize (p.2 : Int) = y at *
        go_wp2
        go_roundw
        case rel => exact ⟨k + 1, _, _, by omega, by go_num, rfl, rfl, by rw [HU.out]; exact HK⟩
        case measure => (simp [intOf] <;> omega)
      · have HU : Hid (dropD (D.take (k + 1)) v = dropD (D.take k) v ++ [p]) := Lib.hid (by rw [HN.out, if_neg he])
        have t : ((p.1 : Int) != v) = true := by simpa using he
        have HA := Lib.hid hat
        have HP := Lib.hid hp
        clear HN he hat hp
        generalize dropD (D.take k) v = E at *
        go_upto_region 7 with (first
          | (at_builtin; refine wpList_append_own_at _ rfl _ _ 38 rfl W.heap.size 3 i (.int .i64 0) 1 8 Tryd.underlying38 hi1 hi2 hi3 hi4 rfl (by decide) s1 E.length ((fsts E).map encZ) rfl ((owns_below HK.out.2.1 ((Below.refl _ wr).alloc (Nat.le_refl _) _))) ⟨wr.heap.size, 0, none⟩ 1 1 [.int .i64 (p.1 : Int)] rfl rfl one_news (by intro u hu; simp at hu; subst hu; rfl) (by unfold maxLen; omega) (by omega) (by simp; omega) ?_; intro v' w6 hown6 hg6 _ hat6; have H6 := Lib.hid (HK.out.one (p := p) hown6 hg6 hat6); clear hown6 hg6 hat6)
          | go_in)
        have hs6 := H6.out.1.size
        obtain ⟨q2, c3, q2', c3', ⟨x0, x1, x2⟩, hb6, hat6⟩ := (HR.out.keep H6.out.1).cells
        obtain ⟨gg, gg', rfl, rfl, ⟨hg6, hg6'⟩, p', hp', e0, e1⟩ := hat6 w6 (Below.refl _ _) k hlt
        obtain rfl : p = p' := Option.some.inj (HP.out.symm.trans hp')
        clear hat6 hp' c0 c1 c2 hb d0 d1 hg hg' HK HA
        go_wp2_with (first
          | (at_builtin; refine wpList_append_own_at _ rfl _ _ 38 rfl W.heap.size 3 i (.int .i64 0) 1 8 Tryd.underlying38 hi1 hi2 hi3 hi4 rfl (by decide) s2 E.length ((snds E).map encZ) rfl ((owns_below H6.out.2.2.1 ((Below.refl _ w6).alloc (Nat.le_refl _) _))) ⟨w6.heap.size, 0, none⟩ 1 1 [.int .i64 (p.2 : Int)] rfl rfl one_news (by intro u hu; simp at hu; subst hu; rfl) (by unfold maxLen; omega) (by omega) (by simp; omega) ?_; intro v'' w9 hown9 hg9 _ hat9; have H9 := Lib.hid (H6.out.two (p := p) hown9 hg9 hat9); clear hown9 hg9 hat9)
          | go_in)
        go_roundw
        case rel => exact ⟨k + 1, _, _, by omega, by go_num, rfl, rfl, by rw [HU.out]; exact H9⟩
        case measure => (simp [intOf] <;> omega)
    · have hke : k = D.length := by omega
      rw [hke, List.take_length] at HK
      have hge : ¬ (k : Int) < (D.length : Int) := by omega
      obtain ⟨q, c, q', c', ⟨c0, c1, c2⟩, hb, -⟩ := (HR.out.keep HK.out.1).cells
      obtain ⟨-, -, vV, vL, ⟨-, -, -, -, f1, f2⟩, -⟩ := HR.out.keep HK.out.1
      have HL := Lib.hid (HK.out.lay HR.out (once_drop HO.out v))
      obtain ⟨p1, k1, rfl⟩ := owns_any HK.out.2.1
      obtain ⟨p2, k2, rfl⟩ := owns_any HK.out.2.2.1
      clear hke HK hlt
      rcases drop_lt HO.out v with ⟨hw, hl⟩ | ⟨hw, hl⟩
      · have HW := Lib.hid hw
        have hl2 : ((dropD D v).length : Int) < (D.length : Int) := by omega
        clear hw hl
        generalize (dropD D v).length = n at *
        go_wp2
        go_ret
        exact ⟨bool_ret HW.out.symm, HL.out⟩
      · have HW := Lib.hid hw
        have hl2 : ¬ ((dropD D v).length : Int) < (D.length : Int) := by omega
        clear hw hl
        generalize (dropD D v).length = n at *
        go_wp2
        go_ret
        exact ⟨bool_ret HW.out.symm, HL.out⟩
end
end Go.Proofs.YthiabjmnbkhehaaDoor
