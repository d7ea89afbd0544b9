/- Contract of the document's Put of a row of buckets. -/
import Derived.Test.YthiabjmnbkhehaaDoorBkRefDrop
namespace Go.Proofs.YthiabjmnbkhehaaDoor
open Go.RowKit Go.ChangeShapes BkPure
theorem fsts_cons (p : Nat × Nat) (E : List (Nat × Nat)) : (fsts (p :: E)).map encZ = [.int .i64 (p.1 : Int)] ++ (fsts E).map encZ := rfl
theorem snds_cons (p : Nat × Nat) (E : List (Nat × Nat)) : (snds (p :: E)).map encZ = [.int .i64 (p.2 : Int)] ++ (snds E).map encZ := rfl
/-- The first list is laid into the row; the second one is made. -/
def PtR (w2 : World) (b N : Nat) (E : List (Nat × Nat)) (u L : Nat) (v' vL : Value) (K2 : Nat) (W : World) : Prop :=
  Turn (fun k => k = b) w2 W ∧ ThreeAt b W (.int .i64 (N : Int)) v' vL ∧ W.ownsRow w2.heap.size 3 1 v' (1 + E.length) ([.int .i64 (u : Int)] ++ (fsts E).map encZ) ∧
    W.ownsRow w2.heap.size 3 1 (.slice (some ⟨K2, 0, none⟩) 1 1) 1 [.int .i64 (L : Int)] ∧ v'.ownBlock ≠ some K2 ∧ W.ownsRow 0 3 1 vL E.length ((snds E).map encZ) ∧ (b < w2.heap.size ∧ ∀ k, vL.ownBlock = some k → k < w2.heap.size)
section
variable {w2 W w6 w9 : World} {b N u L K2 : Nat} {E : List (Nat × Nat)} {T : Nat → Prop} {v' v'' vV vL : Value}
theorem three_put1 {W : World} {x y z : Value} (h : ThreeAt b W x y z) (v : Value) : ThreeAt b (W.setCell ⟨b, 1, none⟩ v) x v z := by
  obtain ⟨q0, q1, q2, f0, f1, f2⟩ := h
  refine ⟨(World.cell?_setCell_other W ⟨b, 1, none⟩ ⟨b, 0, none⟩ _ (by simp)).trans q0, World.cell?_setCell_same _ _ _ q1, (World.cell?_setCell_other W ⟨b, 1, none⟩ ⟨b, 2, none⟩ _ (by simp)).trans q2, ?_, ?_, ?_⟩
  · simpa using f0
  · simpa using f1
  · simpa using f2
theorem three_put2 {W : World} {x y z : Value} (h : ThreeAt b W x y z) (v : Value) : ThreeAt b (W.setCell ⟨b, 2, none⟩ v) x y v := by
  obtain ⟨q0, q1, q2, f0, f1, f2⟩ := h
  refine ⟨(World.cell?_setCell_other W ⟨b, 2, none⟩ ⟨b, 0, none⟩ _ (by simp)).trans q0, (World.cell?_setCell_other W ⟨b, 2, none⟩ ⟨b, 1, none⟩ _ (by simp)).trans q1, World.cell?_setCell_same _ _ _ q2, ?_, ?_, ?_⟩
  · simpa using f0
  · simpa using f1
  · simpa using f2
theorem lits (w2 : World) (u L : Nat) (T1 : TypeId) (h1 : T1 = 3) :
    Below w2.heap.size w2 ((w2.alloc (.cells #[.int .i64 (u : Int)] T1)).alloc (.cells #[.int .i64 (L : Int)] T1)) ∧
    ((w2.alloc (.cells #[.int .i64 (u : Int)] T1)).alloc (.cells #[.int .i64 (L : Int)] T1)).ownsRow w2.heap.size 3 1 (.slice (some ⟨w2.heap.size, 0, none⟩) 1 1) 1 [.int .i64 (u : Int)] ∧
    ((w2.alloc (.cells #[.int .i64 (u : Int)] T1)).alloc (.cells #[.int .i64 (L : Int)] T1)).ownsRow w2.heap.size 3 1 (.slice (some ⟨w2.heap.size + 1, 0, none⟩) 1 1) 1 [.int .i64 (L : Int)] ∧
    ((w2.alloc (.cells #[.int .i64 (u : Int)] T1)).alloc (.cells #[.int .i64 (L : Int)] T1)).heap.size = w2.heap.size + 2 := by
  subst h1
  have b1 := (Below.refl w2.heap.size w2).alloc (Nat.le_refl _) (.cells #[.int .i64 (u : Int)] 3)
  have o1 := World.ownsRow_lit (base := w2.heap.size) (e := 3) (size := 1) w2 #[.int .i64 (u : Int)] 1 (Nat.le_refl _) (by unfold maxLen; omega) rfl
  generalize hW : w2.alloc (.cells #[.int .i64 (u : Int)] 3) = W1 at *
  have hs : W1.heap.size = w2.heap.size + 1 := by rw [← hW]; simp
  have b2 := (Below.refl W1.heap.size W1).alloc (Nat.le_refl _) (.cells #[.int .i64 (L : Int)] 3)
  have o2 := World.ownsRow_lit (base := w2.heap.size) (e := 3) (size := 1) W1 #[.int .i64 (L : Int)] 1 (by omega) (by unfold maxLen; omega) rfl
  rw [hs] at o2
  exact ⟨b1.trans (b2.mono (by omega)), owns_below o1 b2, o2, by simp [hs]⟩
theorem rf_end {D : List (Nat × Nat)} {s1 s2 : Value} (hr : RfB T b N D w2) (ho : Once N E) (t : Turn (fun k => k = b) w2 W) (h3 : ThreeAt b W (.int .i64 (N : Int)) s1 s2) (o1 : W.ownsRow w2.heap.size 3 1 s1 E.length ((fsts E).map encZ))
    (o2 : W.ownsRow w2.heap.size 3 1 s2 E.length ((snds E).map encZ)) (he : E ≠ []) : Turn (fun k => k = b) w2 W ∧ RfB T b N E W := by
  obtain ⟨r0, r1, vV, vL, r2, r3, r4, r5, r6, r7, -⟩ := hr
  have hb := r2.lt
  have l1 := o1.lt
  have l2 := o2.lt
  refine ⟨t, r0, ho, s1, s2, h3, owns_mono o1 (Nat.zero_le _), owns_mono o2 (Nat.zero_le _), fun k e => ?_, r6, fun k e => Nat.lt_of_lt_of_le (r7 k e) t.size, fun e => absurd e he⟩
  have hk : w2.heap.size ≤ k := by
    rcases e with e | e
    · exact (l1 k e).1
    · exact (l2 k e).1
  exact ⟨by omega, fun e => by have := r7 k e; omega⟩
/-- Behind the first append and its store. -/
theorem PtR.one {w3 : World} (hb3 : Below w2.heap.size w2 w3) (h3 : ThreeAt b w2 (.int .i64 (N : Int)) vV vL) (o2 : w3.ownsRow w2.heap.size 3 1 (.slice (some ⟨w2.heap.size + 1, 0, none⟩) 1 1) 1 [.int .i64 (L : Int)]) (hs : w3.heap.size = w2.heap.size + 2)
    (oL : w2.ownsRow 0 3 1 vL E.length ((snds E).map encZ)) (hbL : ∀ k, vL.ownBlock = some k → k ≠ b) (hown : w6.ownsRow w2.heap.size 3 1 v' (1 + E.length) ([.int .i64 (u : Int)] ++ (fsts E).map encZ)) (hg : w3.grownBy w6 (some w2.heap.size)) (hat : v'.ownBlock = some w2.heap.size ∨ v'.ownBlock = some w3.heap.size) :
    PtR w2 b N E u L v' vL (w2.heap.size + 1) (w6.setCell ⟨b, 1, none⟩ v') := by
  have hb := h3.lt
  have lL := oL.lt
  have g1 : ∀ k, k < w3.heap.size → k ≠ w2.heap.size → w6.heap[k]? = w3.heap[k]? := fun k hk e => hg.block k hk (fun e2 => e (Option.some.inj e2))
  have g0 : ∀ k, k < w2.heap.size → w6.heap[k]? = w2.heap[k]? := fun k hk => (g1 k (by omega) (by omega)).trans (hb3.block k hk)
  have t : Turn (fun k => k = b) w2 w6 := (Turn.ofBelow (O := fun k => k = b) hb3).trans (Turn.grown (O := fun k => k = w2.heap.size) hg (fun k e => (Option.some.inj e).symm)) (fun k e => Or.inr (by omega))
  have h6 := three_same h3 (g0 b hb)
  refine ⟨t.trans (Turn.cell (O := fun k => k = b) _ 1 _ rfl) (fun _ e => Or.inl e), three_put1 h6 v', owns_setCell hown (p := ⟨b, 1, none⟩) hb _, owns_setCell (owns_same o2 (fun k e => g1 k ?_ ?_)) (p := ⟨b, 1, none⟩) hb _, ?_, ?_, hb, fun k e => (lL k e).2⟩
  · simp [Value.ownBlock] at e; omega
  · simp [Value.ownBlock] at e; omega
  · intro e
    rcases hat with e2 | e2
    · rw [e2] at e; have := Option.some.inj e; omega
    · rw [e2] at e; have := Option.some.inj e; omega
  · exact owns_same (owns_same oL (fun k e => g0 k (lL k e).2)) (fun k e => cell_other (hbL k e))
/-- Behind the second append and its store. -/
theorem PtR.two {D : List (Nat × Nat)} (h : PtR w2 b N E u L v' vL K2 W) (hr : RfB T b N D w2) (ho : Once N ((u, L) :: E)) (hown : w9.ownsRow w2.heap.size 3 1 v'' (1 + E.length) ([.int .i64 (L : Int)] ++ (snds E).map encZ)) (hg : W.grownBy w9 (some K2)) (hK : w2.heap.size ≤ K2) :
    Turn (fun k => k = b) w2 (w9.setCell ⟨b, 2, none⟩ v'') ∧ RfB T b N ((u, L) :: E) (w9.setCell ⟨b, 2, none⟩ v'') := by
  obtain ⟨h1, h2, h3, h4, h5, h6, h7, h8⟩ := h
  have l3 := h3.lt
  have t : Turn (fun k => k = b) w2 w9 := h1.trans (Turn.grown (O := fun k => k = K2) hg (fun k e => (Option.some.inj e).symm)) (fun k e => Or.inr (by omega))
  have g0 : W.heap.size ≤ w9.heap.size := hg.size
  have hb : w9.heap[b]? = W.heap[b]? := hg.block b h2.lt (fun e => by have := Option.some.inj e; omega)
  refine rf_end hr ho (t.trans (Turn.cell (O := fun k => k = b) _ 2 _ rfl) (fun _ e => Or.inl e)) (three_put2 (three_same h2 hb) v'') ?_ ?_ (by simp)
  · rw [fsts_cons, List.length_cons, Nat.add_comm]
    exact owns_setCell (owns_same h3 (fun k e => hg.block k (l3 k e).2 (fun e2 => h5 (by rw [e, e2])))) (p := ⟨b, 2, none⟩) h7 _
  · rw [snds_cons, List.length_cons, Nat.add_comm]
    exact owns_setCell hown (p := ⟨b, 2, none⟩) h7 _
theorem row_news {w : World} {g n cap : Nat} {l : List Int} (h : w.ownsRow 0 3 1 (.slice (some ⟨g, 0, none⟩) n cap) n (l.map encZ)) : ∀ j x, (l.map encZ)[j]? = some x → w.cell? ((⟨g, 0, none⟩ : Addr).add j) = some x := by
  intro j x hj
  obtain ⟨hl, -⟩ := List.getElem?_eq_some_iff.1 hj
  have hn : (l.map encZ).length = n * 1 := h.1
  rw [addr_add, Nat.zero_add]
  exact (h.cellAt j (by omega)).trans hj
end
section
variable {T : Nat → Prop} {b N : Nat} {D : List (Nat × Nat)} {W W' : World}
set_option maxRecDepth 100000 in
set_option maxHeartbeats 4000000 in
theorem putR_run (W : World) (v l : Int) (h : RfB T b N D W) :
    Calls Tryd.prog 9 #[.pointer (some ⟨b, 0, none⟩), .int .i64 v, .int .i64 l] W fun e W' => e = .returned (.bool (fitD N v l)) ∧ Turn (fun k => k = b) W W' ∧ RfB T b N (putD N D v l) W' := by
  have HR := Lib.hid h
  have hN := h.once.1
  have HO := Lib.hid h.once.2.1
  obtain ⟨-, -, -, -, ⟨c0, -⟩, hb, -⟩ := h.cells
  obtain ⟨i, hi1, hi2, hi3, hi4⟩ := info_int
  clear h
  by_cases hf : fitD N v l = true
  · have hf' := fit_iff.1 hf
    obtain ⟨u, rfl⟩ := Int.eq_ofNat_of_zero_le hf'.1
    obtain ⟨L, rfl⟩ := Int.eq_ofNat_of_zero_le hf'.2.2.1
    have a1 : ¬ (u : Int) ≥ (N : Int) := by omega
    have a2 : ¬ (L : Int) > 2 * (N : Int) := by omega
    have HW := Lib.hid hf
    have hD : putD N D (u : Int) (L : Int) = (u, L) :: dropD D (u : Int) := by unfold putD; rw [if_pos hf, Int.toNat_natCast, Int.toNat_natCast]
    have HOn : Hid (Once N ((u, L) :: dropD D (u : Int))) := Lib.hid (by rw [← hD]; exact once_put HO.out _ _)
    have HD := Lib.hid hD
    clear hf hf' hD
    go_enter Tryd.func9, Tryd.ntmps9
    go_upto_region 4 with (first | (go_at_call 11; refine (dropR_run _ (u : Int) HR.out).mono ?_; rintro e w2 ⟨rfl, ht, hr⟩; have HT2 := Lib.hid ht; have HR2 := Lib.hid hr; clear ht hr))
    clear c0 hb
    have hle := HR2.out.once.2.2
    generalize dropD D (u : Int) = E at *
    obtain ⟨-, -, vV, vL, h3, oV, oL, hbk, hTb, hT, hnil⟩ := HR2.out
    obtain ⟨hb3, o1, o2, hs3⟩ := lits w2 u L 3 rfl
    have hb2 := h3.lt
    obtain ⟨x0, x1, x2, f0, f1, f2⟩ := h3
    by_cases hE : E = []
    · obtain ⟨rfl, rfl⟩ := hnil hE
      have HF : Hid (Turn (fun k => k = b) w2 ((((w2.alloc (.cells #[.int .i64 (u : Int)] 3)).alloc (.cells #[.int .i64 (L : Int)] 3)).setCell ⟨b, 1, none⟩ (.slice (some ⟨w2.heap.size, 0, none⟩) 1 1)).setCell ⟨b, 2, none⟩ (.slice (some ⟨w2.heap.size + 1, 0, none⟩) 1 1)) ∧ RfB T b N ((u, L) :: E) ((((w2.alloc (.cells #[.int .i64 (u : Int)] 3)).alloc (.cells #[.int .i64 (L : Int)] 3)).setCell ⟨b, 1, none⟩ (.slice (some ⟨w2.heap.size, 0, none⟩) 1 1)).setCell ⟨b, 2, none⟩ (.slice (some ⟨w2.heap.size + 1, 0, none⟩) 1 1))) := Lib.hid (by
        have hdr : DrR w2 ((u, L) :: E) ((u, L) :: E) (.slice (some ⟨w2.heap.size, 0, none⟩) 1 1) (.slice (some ⟨w2.heap.size + 1, 0, none⟩) 1 1) ((w2.alloc (.cells #[.int .i64 (u : Int)] 3)).alloc (.cells #[.int .i64 (L : Int)] 3)) := by
          subst hE
          exact ⟨hb3, o1, o2, fun x e e2 => by simp [Value.ownBlock] at e e2; omega, fun e => by simp at e, fun e => by simp at e⟩
        exact hdr.lay HR2.out HOn.out)
      have HO1 := Lib.hid o1
      have HO2 := Lib.hid (owns_setCell o2 (p := ⟨b, 1, none⟩) hb2 (.slice (some ⟨w2.heap.size, 0, none⟩) 1 1))
      have hb9 : b < ((w2.alloc (.cells #[.int .i64 (u : Int)] 3)).alloc (.cells #[.int .i64 (L : Int)] 3)).heap.size := by rw [hs3]; omega
      obtain ⟨y0, y1, y2, k0, k1, k2⟩ := (show ThreeAt b w2 _ _ _ from ⟨x0, x1, x2, f0, f1, f2⟩).on hb3 hb2
      clear o1 o2 oV oL hbk hTb hT hnil hE hb3 hs3 x0 x1 x2 f0 f1 f2
      go_upto_region 5 with fail
      generalize (w2.alloc (.cells #[.int .i64 (u : Int)] 3)).alloc (.cells #[.int .i64 (L : Int)] 3) = W3 at *
      go_wp2_with (first
        | (at_builtin; refine wpList_append_own_none rfl _ _ 38 rfl w2.heap.size 3 i 1 Tryd.underlying38 hi1 (.slice (some ⟨w2.heap.size, 0, none⟩) 1 1) 1 [.int .i64 (u : Int)] rfl HO1.out rfl ?_)
        | (at_builtin; refine wpList_append_own_none rfl _ _ 38 rfl w2.heap.size 3 i 1 Tryd.underlying38 hi1 (.slice (some ⟨w2.heap.size + 1, 0, none⟩) 1 1) 1 [.int .i64 (L : Int)] rfl HO2.out rfl ?_)
        | go_in)
      go_ret
      exact ⟨bool_ret HW.out.symm, HT2.out.trans HF.out.1 (fun _ e => Or.inl e), by rw [HD.out]; exact HF.out.2⟩
    · have hpos : 0 < E.length := List.length_pos_iff.2 hE
      obtain ⟨g, cap, rfl, -, hg⟩ := owns_slice oV hpos
      obtain ⟨g', cap', rfl, -, hg'⟩ := owns_slice oL hpos
      have HNV : Hid (∀ j x, ((fsts E).map encZ)[j]? = some x → ((w2.alloc (.cells #[.int .i64 (u : Int)] 3)).alloc (.cells #[.int .i64 (L : Int)] 3)).cell? ((⟨g, 0, none⟩ : Addr).add j) = some x) := Lib.hid (row_news (owns_below oV hb3))
      have HO1 := Lib.hid o1
      have HM : Hid (∀ w6 v', w6.ownsRow w2.heap.size 3 1 v' (1 + E.length) ([.int .i64 (u : Int)] ++ (fsts E).map encZ) → ((w2.alloc (.cells #[.int .i64 (u : Int)] 3)).alloc (.cells #[.int .i64 (L : Int)] 3)).grownBy w6 (some w2.heap.size) → (v'.ownBlock = some w2.heap.size ∨ v'.ownBlock = some ((w2.alloc (.cells #[.int .i64 (u : Int)] 3)).alloc (.cells #[.int .i64 (L : Int)] 3)).heap.size) →
          PtR w2 b N E u L v' (.slice (some ⟨g', 0, none⟩) E.length cap') (w2.heap.size + 1) (w6.setCell ⟨b, 1, none⟩ v') ∧ ThreeAt b w6 (.int .i64 (N : Int)) (.slice (some ⟨g, 0, none⟩) E.length cap) (.slice (some ⟨g', 0, none⟩) E.length cap')) := Lib.hid fun w6 v' h6 hg6 hat6 =>
        ⟨PtR.one hb3 ⟨x0, x1, x2, f0, f1, f2⟩ o2 hs3 oL (fun k e => (hbk k (Or.inr e)).1) h6 hg6 hat6, by
          have hb' : w6.heap[b]? = w2.heap[b]? := (hg6.block b (by omega) (fun e => by have := Option.some.inj e; omega)).trans (hb3.block b hb2)
          exact three_same ⟨x0, x1, x2, f0, f1, f2⟩ hb'⟩
      have HS3 := Lib.hid hs3
      clear o1 o2 oV oL hbk hTb hT hnil hE hb3 hs3
      go_upto_region 6 with (first
        | (at_builtin; refine wpList_append_own_at _ rfl _ _ 38 rfl w2.heap.size 3 i (.int .i64 0) 1 8 Tryd.underlying38 hi1 hi2 hi3 hi4 rfl (by decide) (.slice (some ⟨w2.heap.size, 0, none⟩) 1 1) 1 [.int .i64 (u : Int)] rfl HO1.out ⟨g, 0, none⟩ E.length cap ((fsts E).map encZ) rfl (by simp [fsts]) HNV.out (by intro u hu; obtain ⟨m, -, rfl⟩ := List.mem_map.1 hu; rfl) (by unfold maxLen; omega) (by omega) (by rw [HS3.out]; omega) ?_; intro v' w6 hown6 hg6 _ hat6; have HX := Lib.hid (HM.out _ _ hown6 hg6 hat6); obtain ⟨q6, d6, e6⟩ := owns_any hown6; subst e6; clear hown6 hg6 hat6 x0 x1 x2 f0 f1 f2; obtain ⟨y0, y1, y2, k0, k1, k2⟩ := HX.out.2; have hb6 := HX.out.2.lt)
        | go_in)
      have HP := Lib.hid HX.out.1
      clear HX HM HO1 HNV y0 y1 y2 k0 k1 k2 hb6
      generalize w6.setCell ⟨b, 1, none⟩ (.slice q6 (1 + E.length) d6) = w7 at *
      obtain ⟨y0, y1, y2, k0, k1, k2⟩ := HP.out.2.1
      have hb7 := HP.out.2.1.lt
      have HNL : Hid (∀ j x, ((snds E).map encZ)[j]? = some x → w7.cell? ((⟨g', 0, none⟩ : Addr).add j) = some x) := Lib.hid (row_news HP.out.2.2.2.2.2.1)
      have hs7 := HP.out.1.size
      go_wp2_with (first
        | (at_builtin; refine wpList_append_own_at _ rfl _ _ 38 rfl w2.heap.size 3 i (.int .i64 0) 1 8 Tryd.underlying38 hi1 hi2 hi3 hi4 rfl (by decide) (.slice (some ⟨w2.heap.size + 1, 0, none⟩) 1 1) 1 [.int .i64 (L : Int)] rfl HP.out.2.2.2.1 ⟨g', 0, none⟩ E.length cap' ((snds E).map encZ) rfl (by simp [snds]) HNL.out (by intro u hu; obtain ⟨m, -, rfl⟩ := List.mem_map.1 hu; rfl) (by unfold maxLen; omega) (by omega) (by omega) ?_; intro v'' w9 hown9 hg9 _ _; have HY := Lib.hid (PtR.two HP.out HR2.out HOn.out hown9 hg9 (by omega)); have hz9 : w9.heap[b]? = w7.heap[b]? := hg9.block b hb7 (fun e => by have e2 : b = w2.heap.size + 1 := Option.some.inj e; omega); obtain ⟨z0, z1, z2, m0, m1, m2⟩ := three_same HP.out.2.1 hz9; have hb9 := (three_same HP.out.2.1 hz9).lt; obtain ⟨q9, d9, e9⟩ := owns_any hown9; subst e9; clear hown9 hg9)
        | go_in)
      go_ret
      exact ⟨bool_ret HW.out.symm, HT2.out.trans HY.out.1 (fun _ e => Or.inl e), by rw [HD.out]; exact HY.out.2⟩
  · have hff : fitD N v l = false := by simpa using hf
    have HW := Lib.hid hff
    have HE : Hid (Turn (fun k => k = b) W W ∧ RfB T b N (putD N D v l) W) := Lib.hid ⟨Turn.refl _ _, by unfold putD; rw [if_neg hf]; exact HR.out⟩
    rw [fit_iff] at hf
    clear hff HR HO
    by_cases a : v < 0
    · go_enter Tryd.func9, Tryd.ntmps9
      go_wp2
      go_ret
      exact ⟨bool_ret HW.out.symm, HE.out⟩
    by_cases a2 : v ≥ (N : Int)
    · go_enter Tryd.func9, Tryd.ntmps9
      go_wp2
      go_ret
      exact ⟨bool_ret HW.out.symm, HE.out⟩
    by_cases a3 : l < 0
    · go_enter Tryd.func9, Tryd.ntmps9
      go_wp2
      go_ret
      exact ⟨bool_ret HW.out.symm, HE.out⟩
    have a4 : l > 2 * (N : Int) := by omega
    clear hf
    go_enter Tryd.func9, Tryd.ntmps9
    go_wp2
    go_ret
    exact ⟨bool_ret HW.out.symm, HE.out⟩
end
end Go.Proofs.YthiabjmnbkhehaaDoor
