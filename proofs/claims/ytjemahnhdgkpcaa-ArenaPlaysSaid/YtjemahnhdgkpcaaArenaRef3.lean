/- The document's answers of layer 11: Give, Drop. -/
import Derived.Test.YtjemahnhdgkpcaaArenaRef2
namespace Go.Proofs.Ytjemahnhdgkpcaa
open Go.RowKit Go.ChangeShapes ArenaPure
theorem two_same {b : Nat} {w w' : World} {u v : Value} (h : TwoAt b w u v) (hk : w'.heap[b]? = w.heap[b]?) : TwoAt b w' u v :=
  ⟨(World.cell?_of_block hk).trans h.1, (World.cell?_of_block hk).trans h.2.1, (World.frozen?_of_block hk).trans h.2.2.1, (World.frozen?_of_block hk).trans h.2.2.2⟩
/-- The result's place R0 and a variable's R1 lie beside the document's arena while it is turned. -/
def HeldAt (O0 : Nat → Prop) (w : World) (R0 R1 : Nat) (u0 u1 v0 v1 : Value) (O : Nat → Prop) (b : Nat) (W : World) (N : Nat) (X : List Int) (I : List Bool) (F : List Nat) : Prop :=
  Turn O0 w W ∧ TwoAt R0 W u0 u1 ∧ TwoAt R1 W v0 v1 ∧ RfM O b W N X I F ∧ (w.heap.size ≤ R0 ∧ w.heap.size ≤ R1) ∧ (¬ O R0 ∧ ¬ O R1) ∧ ∀ k, O k → O0 k ∨ w.heap.size ≤ k
section
variable {O0 O O' : Nat → Prop} {w W W' : World} {R0 R1 b N : Nat} {u0 u1 v0 v1 : Value} {X X' : List Int} {I I' : List Bool} {F F' : List Nat}
theorem HeldAt.step (h : HeldAt O0 w R0 R1 u0 u1 v0 v1 O b W N X I F) (ht : Turn O W W') (ho : ∀ k, O' k → O k ∨ W.heap.size ≤ k) (hr : RfM O' b W' N X' I' F') : HeldAt O0 w R0 R1 u0 u1 v0 v1 O' b W' N X' I' F' := by
  obtain ⟨h1, h2, h3, h4, h5, ⟨h6, h7⟩, h8⟩ := h
  have s1 := h1.size
  refine ⟨h1.trans ht h8, two_same h2 (ht.2.2.2.2 R0 h2.lt h6), two_same h3 (ht.2.2.2.2 R1 h3.lt h7), hr, h5, ⟨fun e => ?_, fun e => ?_⟩, fun k e => ?_⟩
  · rcases ho _ e with e | e
    · exact h6 e
    · have := h2.lt; omega
  · rcases ho _ e with e | e
    · exact h7 e
    · have := h3.lt; omega
  · rcases ho _ e with e | e
    · exact h8 k e
    · exact Or.inr (by omega)
theorem HeldAt.same (h : HeldAt O0 w R0 R1 u0 u1 v0 v1 O b W N X I F) (ht : Turn O W W') (hr : RfM O b W' N X' I' F') : HeldAt O0 w R0 R1 u0 u1 v0 v1 O b W' N X' I' F' := h.step ht (fun _ e => Or.inl e) hr
theorem HeldAt.keep (h : HeldAt O0 w R0 R1 u0 u1 v0 v1 O b W N X I F) (hb : Below W.heap.size W W') : HeldAt O0 w R0 R1 u0 u1 v0 v1 O b W' N X I F := h.same (Turn.ofBelow hb) (h.2.2.2.1.keep hb)
/-- What is told is laid into the result's place. -/
theorem HeldAt.end (h : HeldAt O0 w R0 R1 u0 u1 v0 v1 O b W N X I F) (x y : Value) :
    (let W2 := (W.setCell ⟨R0, 0, none⟩ x).setCell ⟨R0, 1, none⟩ y
     W2.cell? ⟨R0, 0, none⟩ = some x ∧ W2.cell? ⟨R0, 1, none⟩ = some y ∧ Turn O0 w W2 ∧ (∀ k, O k → O0 k ∨ w.heap.size ≤ k) ∧ RfM O b W2 N X I F) := by
  obtain ⟨h1, h2, h3, h4, h5, ⟨h6, h7⟩, h8⟩ := h
  have t := h2.set x y
  have ht : Turn (fun k => k = R0) W ((W.setCell ⟨R0, 0, none⟩ x).setCell ⟨R0, 1, none⟩ y) := (Turn.cell (O := fun k => k = R0) W 0 x rfl).trans (Turn.cell (O := fun k => k = R0) _ 1 y rfl) (fun _ e => Or.inl e)
  exact ⟨t.1, t.2.1, h1.trans ht (fun k e => Or.inr (by rw [show k = R0 from e]; exact h5.1)), h8, h4.past ht (fun k e e2 => h6 (by rw [← show k = R0 from e2]; exact e))⟩
end
theorem held_new {O : Nat → Prop} {w : World} {b N : Nat} {S : St} (h : RfAt O b w N S) (u v : Value) (T : TypeId) : HeldAt O w w.heap.size w.heap.size u v u v O b (w.alloc (.cells #[u, v] T)) N S.X S.I S.F := by
  have hb := (Below.refl _ w).alloc (Nat.le_refl _) (.cells #[u, v] T)
  have hn : ¬ O w.heap.size := fun e => by have := h.lt _ e; omega
  exact ⟨Turn.ofBelow hb, TwoAt.new w u v T, TwoAt.new w u v T, h.2.2.keep hb, ⟨Nat.le_refl _, Nat.le_refl _⟩, ⟨hn, hn⟩, fun k e => Or.inl e⟩
def RGiveOut (O : Nat → Prop) (b N : Nat) (S : St) (w w' : World) : Prop := Turn O w w' ∧ ∃ O', (∀ k, O' k → O k ∨ w.heap.size ≤ k) ∧ RfAt O' b w' N S
theorem info_bool : ∃ i, (Try.prog.info? 4) = some i ∧ i.zero = some (.bool false) ∧ i.size = 1 ∧ i.bytes = 1 := info_of (by kernel_rfl)
set_option maxHeartbeats 4000000 in
theorem giveRef_any (O : Nat → Prop) (b N : Nat) (S : St) (x : Int) (w : World) (h : RfAt O b w N S) :
    Calls Try.prog 9 #[.pointer (some ⟨b, 0, none⟩), .int .i64 x] w fun e w' => e = .returned (.agg #[.int .i64 (giveN N S), .bool (giveB N S)]) ∧ RGiveOut O b N (giveS N S x) w w' := by
  have hg := h.2.1
  have hN := h.1
  have hff := full_free hg
  have hxi := hg.1
  have hKN := hg.2.1
  have HE : Hid (∀ W' O', Turn O w W' → (∀ k, O' k → O k ∨ w.heap.size ≤ k) → RfM O' b W' N (giveS N S x).X (giveS N S x).I (giveS N S x).F → RGiveOut O b N (giveS N S x) w W') := Lib.hid fun W' O' h1 h2 h3 => ⟨h1, O', h2, hN, good_give hg x, h3⟩
  have HA := Lib.hid (held_new h (.int .i64 0) (.bool false) 31)
  cases hF : S.F with
  | cons n r =>
    obtain ⟨hlt, hfl, hlv⟩ := first_free hg hF
    have hne : liveN S ≠ N := by omega
    have H1 : Hid (giveN N S = n) := Lib.hid (by unfold giveN firstN; rw [if_neg hne, hF]; rfl)
    have H2 : Hid (giveB N S = true) := Lib.hid (by unfold giveB; rw [decide_eq_false hne]; rfl)
    have hput : giveS N S x = ⟨S.X.set n x, S.I.set n true, r⟩ := by unfold giveS putS; rw [if_neg hne, hF]
    rw [hput] at HE ⊢
    rw [hF] at HA
    have hX : n < S.X.length := by omega
    have hrl : r.length ≤ 1048576 := by have := hg.2.2.2.2; rw [hF] at this; simp at this; omega
    have hXl : S.X.length ≤ 1048576 := by omega
    have a0 : (0 : Int) ≤ (n : Int) := by omega
    have a1 : (n : Int) < (S.X.length : Int) := by omega
    have a2 : (n : Int) < (S.I.length : Int) := by omega
    have HX := Lib.hid hX
    have HI : Hid (n < S.I.length) := Lib.hid hlt
    clear h hg hff hfl hlv hne hput hF hX hlt hxi hKN
    go_enter Try.func9, Try.ntmps9
    go_upto_region 1 with fail
    generalize w.alloc (.cells #[.int .i64 0, .bool false] 31) = W0 at *
    generalize w.heap.size = R0 at *
    obtain ⟨g, off, c, ⟨c3, f3⟩, ⟨hb, hg, hbg, hc⟩, e0, t1, r1⟩ := HA.out.2.2.2.1.tail
    have HA1 := Lib.hid (HA.out.same t1 r1)
    clear t1 r1 HA
    go_upto_region 4 with fail
    generalize (if c = 1 then some (⟨g, off, none⟩ : Addr) else some ⟨g, off + 1, none⟩) = q at *
    clear c3 f3 hb hg e0
    generalize W0.setCell ⟨b, 3, none⟩ (.slice q r.length (c - 1)) = W1 at *
    obtain ⟨g1, cap1, ⟨c1, hb, hg, hbg1⟩, ⟨u, e0⟩, f0, t1, r1⟩ := HA1.out.2.2.2.1.layX HX.out x
    have HA2 := Lib.hid (HA1.out.same t1 r1)
    clear t1 r1 HA1
    go_upto_region 5 with fail
    clear c1 hb hg e0 f0
    generalize W1.setCell ⟨g1, n, none⟩ (.int .i64 x) = W2 at *
    obtain ⟨g2, cap2, ⟨c1, hb, hg, hbg2⟩, ⟨u, e0⟩, f0, t1, r1⟩ := HA2.out.2.2.2.1.layI HI.out true
    have HA3 := Lib.hid (HA2.out.same t1 r1)
    clear t1 r1 HA2
    go_upto_region 6 with fail
    clear c1 hb hg e0 f0
    generalize W2.setCell ⟨g2, n, none⟩ (.bool true) = W3 at *
    obtain ⟨z0, z1, k0, k1⟩ := HA3.out.2.1
    have hR := HA3.out.2.1.lt
    obtain ⟨s0, s1, s2, s3, s4⟩ := HA3.out.end (.int .i64 (n : Int)) (.bool true)
    have HZ := Lib.hid (And.intro s2 (And.intro s3 s4))
    clear s2 s3 s4
    go_wp2
    refine bodyPost_ret (v := .agg #[.int .i64 (n : Int), .bool true]) (by simp [results, Try.results9, go_sem, s0, s1]) rfl ⟨agg_ib H1.out.symm H2.out.symm, HE.out _ _ HZ.out.1 (fun _ e => Or.inl e) HZ.out.2.2⟩
  | nil =>
    have hb0 := HA.out.2.2.2.1.lt
    have hKl := none_free hg hF
    have HF := Lib.hid hF
    obtain ⟨vx, vi, q, c, h4, -⟩ := HA.out.2.2.2.1
    have hlen : S.F.length = 0 := by rw [hF]; rfl
    rw [hlen] at h4
    by_cases hne : liveN S = N
    · have H1 : Hid (giveN N S = 0) := Lib.hid (if_pos hne)
      have H2 : Hid (giveB N S = false) := Lib.hid (by unfold giveB; rw [decide_eq_true hne]; rfl)
      have hput : giveS N S x = S := if_pos hne
      rw [hput] at HE ⊢
      have t1 : N ≤ S.X.length := by omega
      have t2 : (S.X.length : Int) ≥ (N : Int) := by omega
      have hXl : S.X.length ≤ 1048576 := by omega
      clear h hg hff hxi hKN hput hF hKl hlen hb0 hne
      go_enter Try.func9, Try.ntmps9
      go_upto_region 1 with fail
      generalize w.alloc (.cells #[.int .i64 0, .bool false] 31) = W0 at *
      generalize hR0 : w.heap.size = R0 at *
      clear hR0
      obtain ⟨q1, cx, c1, hb, -, -⟩ := HA.out.2.2.2.1.moreX
      have c3 := h4.cells.1.2.2.2
      have c0 := h4.cells.1.1
      clear h4
      go_upto_region 7 with fail
      go_quiet (fail)
      go_upto_region 8 with fail
      have HA1 := Lib.hid (HA.out.keep (below_drewN (Below.refl _ _) nq))
      clear c1 c3 c0 hb HA
      generalize W0.drewN nq = W1 at *
      obtain ⟨z0, z1, k0, k1⟩ := HA1.out.2.1
      have hR := HA1.out.2.1.lt
      obtain ⟨s0, s1, s2, s3, s4⟩ := HA1.out.end (.int .i64 0) (.bool false)
      have HZ := Lib.hid (And.intro s2 (And.intro s3 s4))
      clear s2 s3 s4
      go_wp2
      refine bodyPost_ret (v := .agg #[.int .i64 0, .bool false]) (by simp [results, Try.results9, go_sem, s0, s1]) rfl ⟨agg_ib H1.out.symm H2.out.symm, HE.out _ _ HZ.out.1 (fun _ e => Or.inl e) HZ.out.2.2⟩
    · have hlv : N ≠ S.X.length := by omega
      have H1 : Hid (giveN N S = (S.X.length : Int)) := Lib.hid (by unfold giveN firstN; rw [if_neg hne, hF, hxi]; rfl)
      have H2 : Hid (giveB N S = true) := Lib.hid (by unfold giveB; rw [decide_eq_false hne]; rfl)
      have hput : giveS N S x = ⟨S.X ++ [x], S.I ++ [true], []⟩ := by unfold giveS putS; rw [if_neg hne, hF]
      rw [hput] at HE ⊢
      rw [hF] at HA
      have t1 : ¬ N ≤ S.X.length := by omega
      have t2 : ¬ (S.X.length : Int) ≥ (N : Int) := by omega
      have hXl : S.X.length < 1048576 := by omega
      have hIl : S.I.length < 1048576 := by omega
      clear h hg hff hxi hKN hput hF hKl hlen hb0 hne hlv HF
      go_enter Try.func9, Try.ntmps9
      go_upto_region 1 with fail
      generalize w.alloc (.cells #[.int .i64 0, .bool false] 31) = W0 at *
      generalize hR0 : w.heap.size = R0 at *
      have HR0 := Lib.hid hR0
      clear hR0
      obtain ⟨q1, cx, c1, hb, -, -⟩ := HA.out.2.2.2.1.moreX
      have c3 := h4.cells.1.2.2.2
      have c0 := h4.cells.1.1
      clear h4
      go_upto_region 7 with fail
      go_quiet (fail)
      go_upto_region 9 with fail
      have HA1 := Lib.hid (HA.out.keep (below_drewN (Below.refl _ _) nq))
      clear c1 c3 c0 hb HA t1 t2
      generalize W0.drewN nq = W1 at *
      obtain ⟨q2, c2, c1, hb, hox, hm⟩ := HA1.out.2.2.2.1.moreX
      have HM := Lib.hid hm
      have HOx := Lib.hid hox
      obtain ⟨i, hi1, hi2, hi3, hi4⟩ := info_int
      obtain ⟨j, hj1, hj2, hj3, hj4⟩ := info_bool
      clear hm hox
      go_upto_region 10 with (first
        | (at_builtin; refine wpList_append_own_at _ rfl _ _ 36 rfl (b + 1) 3 i (.int .i64 0) 1 8 Try.underlying36 hi1 hi2 hi3 hi4 rfl (by decide) (.slice q2 S.X.length c2) S.X.length (S.X.map encZ) rfl (HOx.out.alloc _) ⟨W1.heap.size, 0, none⟩ 1 1 [.int .i64 x] rfl rfl one_news (by intro u hu; simp at hu; subst hu; rfl) (by unfold maxLen; omega) (by omega) (by simp; omega) ?_; intro v' w6 hown6 hg6 _ hat6; have HX := Lib.hid (HM.out _ _ _ x hown6 hg6 hat6); obtain ⟨q6, d6, e6⟩ := owns_any hown6; subst e6; obtain ⟨⟨z1, y1⟩, hb6, -⟩ := HX.out; clear hown6 hg6 hat6 HM HOx c1)
        | go_in)
      obtain ⟨-, -, ht, O1, ho, hr⟩ := HX.out
      have HA2 := Lib.hid (HA1.out.step ht ho hr)
      clear ht ho hr HX HA1 z1 y1 hb6 hb
      generalize w6.setCell ⟨b, 1, none⟩ (.slice q6 (S.X.length + 1) d6) = W2 at *
      obtain ⟨q3, c3, c1, hb, hox, hm⟩ := HA2.out.2.2.2.1.moreI
      have HM := Lib.hid hm
      have HOx := Lib.hid hox
      clear hm hox
      go_upto_region 11 with (first
        | (at_builtin; refine wpList_append_own_at _ rfl _ _ 39 rfl (b + 1) 4 j (.bool false) 1 1 Try.underlying39 hj1 hj2 hj3 hj4 rfl (by decide) (.slice q3 S.I.length c3) S.I.length (S.I.map encO) rfl (HOx.out.alloc _) ⟨W2.heap.size, 0, none⟩ 1 1 [.bool true] rfl rfl one_news (by intro u hu; simp at hu; subst hu; rfl) (by unfold maxLen; omega) (by omega) (by simp; omega) ?_; intro v' w7 hown6 hg6 _ hat6; have HX := Lib.hid (HM.out _ _ _ true hown6 hg6 hat6); obtain ⟨q7, d7, e6⟩ := owns_any hown6; subst e6; obtain ⟨⟨z1, y1⟩, hb6, -⟩ := HX.out; clear hown6 hg6 hat6 HM HOx c1)
        | go_in)
      obtain ⟨-, -, ht, O2, ho, hr⟩ := HX.out
      have HA3 := Lib.hid (HA2.out.step ht ho hr)
      clear ht ho hr HX HA2 z1 y1 hb6 hb
      generalize w7.setCell ⟨b, 2, none⟩ (.slice q7 (S.I.length + 1) d7) = W3 at *
      obtain ⟨q8, c8, c1, hb, -, -⟩ := HA3.out.2.2.2.1.moreX
      rw [show (S.X ++ [x]).length = S.X.length + 1 by simp] at c1
      obtain ⟨z0, z1, k0, k1⟩ := HA3.out.2.1
      have hR := HA3.out.2.1.lt
      obtain ⟨s0, s1, s2, s3, s4⟩ := HA3.out.end (.int .i64 (S.X.length : Int)) (.bool true)
      have HZ := Lib.hid (And.intro s2 (And.intro s3 s4))
      clear s2 s3 s4
      go_wp2
      refine bodyPost_ret (v := .agg #[.int .i64 (S.X.length : Int), .bool true]) (by simp [results, Try.results9, go_sem, s0, s1]) rfl ⟨agg_ib H1.out.symm H2.out.symm, HE.out _ _ HZ.out.1 (by rw [← HR0.out]; exact HZ.out.2.1) HZ.out.2.2⟩
theorem HeldAt.beside {O0 O : Nat → Prop} {w W : World} {R0 b N : Nat} {u0 u1 : Value} {X : List Int} {I : List Bool} {F : List Nat} (h : HeldAt O0 w R0 R0 u0 u1 u0 u1 O b W N X I F) (x y : Value) (T : TypeId) : HeldAt O0 w R0 W.heap.size u0 u1 x y O b (W.alloc (.cells #[x, y] T)) N X I F := by
  have hb := (Below.refl _ W).alloc (Nat.le_refl _) (.cells #[x, y] T)
  have hk := h.keep hb
  obtain ⟨-, -, -, h4, -⟩ := h
  obtain ⟨k1, k2, -, k4, k5, k6, k7⟩ := hk
  have := k1.size
  exact ⟨k1, k2, TwoAt.new W x y T, k4, ⟨k5.1, by have := k5.1; have := k2.lt; simp at this; omega⟩, ⟨k6.1, fun e => by have := h4.lt _ e; omega⟩, k7⟩
theorem RfM.newL {O : Nat → Prop} {b : Nat} {w w' : World} {N : Nat} {X : List Int} {I : List Bool} {F F' : List Nat} {v : Value} {n : Nat} {xs : List Value} (h : RfM O b w N X I F) (hb : Below w.heap.size w w') (hn : n = F'.length) (h0 : 0 < n) (hx : xs = F'.map encK) (hown : w'.ownsRow w.heap.size 3 1 v n xs) :
    Turn O w (w'.setCell ⟨b, 3, none⟩ v) ∧ ∃ O', (∀ k, O' k → O k ∨ w.heap.size ≤ k) ∧ RfM O' b (w'.setCell ⟨b, 3, none⟩ v) N X I F' := by
  subst hx
  obtain ⟨g, cap, rfl, hg, hg2⟩ := owns_slice hown h0
  obtain ⟨p, cap', e, hr, hc⟩ := owns_readsL hn hown
  rw [e]
  cases e
  exact h.newF hb hr hc (fun e => by cases e) (fun z e => by cases e; exact ⟨hg, hg2⟩)
set_option maxHeartbeats 4000000 in
theorem dropRef_any (O : Nat → Prop) (b N : Nat) (S : St) (n : Int) (w : World) (h : RfAt O b w N S) :
    Calls Try.prog 11 #[.pointer (some ⟨b, 0, none⟩), .int .i64 n] w fun e w' => e = .returned (.agg #[.int .i64 (atV S n), .bool (hasB S n)]) ∧ RGiveOut O b N (freeS S n) w w' := by
  have hg := h.2.1
  have hN := h.1
  have HG := Lib.hid hg
  have HE : Hid (∀ W' O', Turn O w W' → (∀ k, O' k → O k ∨ w.heap.size ≤ k) → RfM O' b W' N (freeS S n).X (freeS S n).I (freeS S n).F → RGiveOut O b N (freeS S n) w W') := Lib.hid fun W' O' h1 h2 h3 => ⟨h1, O', h2, hN, good_free hg n, h3⟩
  have HA := Lib.hid (held_new h (.int .i64 0) (.bool false) 31)
  have hFl : S.F.length ≤ 1048576 := by have := hg.2.2.2.2; have := hg.2.1; omega
  have hIl : S.I.length ≤ 1048576 := by have := hg.2.1; omega
  clear hg
  cases hh : hasB S n
  · have hput : freeS S n = S := by unfold freeS; rw [hh]; exact if_neg (by decide)
    rw [hput] at HE ⊢
    have HF := Lib.hid hh
    clear h hput hh
    go_enter Try.func11, Try.ntmps11
    go_upto_region 1 with fail
    generalize w.alloc (.cells #[.int .i64 0, .bool false] 31) = W0 at *
    generalize hR0 : w.heap.size = R0 at *
    have HR0 := Lib.hid hR0
    clear hR0
    go_wp2_with fail
    refine (atRef_any O b N S n W0 ⟨hN, HG.out, HA.out.2.2.2.1⟩).mono ?_
    rintro e w1 ⟨rfl, hb1⟩
    rw [HF.out]
    have HA1 := Lib.hid ((HA.out.keep hb1).beside (.int .i64 (atV S n)) (.bool false) 31)
    clear hb1 HA
    go_upto_region 2 with fail
    generalize w1.alloc (.cells #[.int .i64 (atV S n), .bool false] 31) = W1 at *
    generalize w1.heap.size = R1 at *
    obtain ⟨z0, z1, k0, k1⟩ := HA1.out.2.1
    obtain ⟨z2, z3, k2, k3⟩ := HA1.out.2.2.1
    have hR := HA1.out.2.1.lt
    have hR1 := HA1.out.2.2.1.lt
    obtain ⟨s0, s1, s2, s3, s4⟩ := HA1.out.end (.int .i64 (atV S n)) (.bool false)
    have HZ := Lib.hid (And.intro s2 (And.intro s3 s4))
    clear s2 s3 s4
    go_wp2
    refine bodyPost_ret (v := .agg #[.int .i64 (atV S n), .bool false]) (by simp [results, Try.results11, go_sem, s0, s1]) rfl ⟨rfl, HE.out _ _ HZ.out.1 (by rw [← HR0.out]; exact HZ.out.2.1) HZ.out.2.2⟩
  · obtain ⟨k, rfl, hk, hy⟩ := has_yes hh
    have hput : freeS S (k : Int) = ⟨S.X, S.I.set k false, k :: S.F⟩ := by unfold freeS dropS; rw [hh, if_pos rfl, Int.toNat_natCast]
    rw [hput] at HE ⊢
    have HF := Lib.hid hh
    have HI : Hid (k < S.I.length) := Lib.hid hk
    have a0 : (0 : Int) ≤ (k : Int) := by omega
    have a1 : (k : Int) < (S.I.length : Int) := by omega
    obtain ⟨i, hi1, hi2, hi3, hi4⟩ := info_int
    clear h hput hh hk hy
    go_enter Try.func11, Try.ntmps11
    go_upto_region 1 with fail
    generalize w.alloc (.cells #[.int .i64 0, .bool false] 31) = W0 at *
    generalize hR0 : w.heap.size = R0 at *
    have HR0 := Lib.hid hR0
    clear hR0
    go_wp2_with fail
    refine (atRef_any O b N S k W0 ⟨hN, HG.out, HA.out.2.2.2.1⟩).mono ?_
    rintro e w1 ⟨rfl, hb1⟩
    rw [HF.out]
    have HA1 := Lib.hid ((HA.out.keep hb1).beside (.int .i64 (atV S k)) (.bool true) 31)
    clear hb1 HA
    go_upto_region 2 with fail
    generalize w1.alloc (.cells #[.int .i64 (atV S k), .bool true] 31) = W1 at *
    generalize w1.heap.size = R1 at *
    obtain ⟨g2, cap2, ⟨c1, hb, hg, hbg2⟩, ⟨u, e0⟩, f0, t1, r1⟩ := HA1.out.2.2.2.1.layI HI.out false
    obtain ⟨z2, z3, k2, k3⟩ := HA1.out.2.2.1
    have hR1 := HA1.out.2.2.1.lt
    have HA2 := Lib.hid (HA1.out.same t1 r1)
    clear t1 r1 HA1
    go_upto_region 4 with fail
    clear c1 hb hg e0 f0 z2 z3 k2 k3 hR1
    generalize W1.setCell ⟨g2, k, none⟩ (.bool false) = W2 at *
    go_upto_region 6 with (first
      | (at_builtin; refine wpList_append_own_at _ rfl _ _ 36 rfl W2.heap.size 3 i (.int .i64 0) 1 8 Try.underlying36 hi1 hi2 hi3 hi4 rfl (by decide) (.slice none 0 0) 0 [] rfl (World.ownsRow_nil _ _ _ _) ⟨W2.heap.size, 0, none⟩ 1 1 [.int .i64 (k : Int)] rfl rfl one_news (by intro u hu; simp at hu; subst hu; rfl) (by unfold maxLen; omega) (by omega) (by simp) ?_; intro v' w6 hown6 hg6 _ _; have HX := Lib.hid hown6; have HB6 : Hid (Below W2.heap.size W2 w6) := Lib.hid (((Below.refl _ W2).alloc (Nat.le_refl _) _).grown hg6 (by simp) (fun k e => by cases e)); obtain ⟨q6, d6, e6⟩ := owns_any hown6; subst e6; clear hown6 hg6)
      | go_in)
    obtain ⟨vx, vi, q, c, h4, -, -, hrd, ⟨hFc, hqn, -⟩, -⟩ := (HA2.out.keep HB6.out).2.2.2.1
    have c3 := h4.cells.1.2.2.2
    have f3 := h4.cells.2.2.2.2
    have hb := h4.lt
    have HRD := Lib.hid hrd
    clear h4 hrd
    cases q with
    | none =>
      have hc0 := hqn rfl
      subst hc0
      have hF0 : S.F = [] := List.length_eq_zero_iff.1 (by omega)
      have HX7 : Hid (w6.ownsRow W2.heap.size 3 1 (.slice q6 (0 + 1) d6) (0 + 1) ((k :: S.F).map encK)) := Lib.hid (by rw [hF0]; exact HX.out)
      have HB7 := HB6
      have hl0 : S.F.length = 0 := by rw [hF0]; rfl
      rw [hl0] at c3
      clear hqn hFc hF0 HRD
      go_upto_region 7 with (first
        | (at_builtin; refine wpList_append_own_none rfl _ _ 36 rfl W2.heap.size 3 i 1 Try.underlying36 hi1 (.slice q6 (0 + 1) d6) (0 + 1) _ rfl HX.out rfl ?_)
        | go_in)
      clear c3 f3 hb
      obtain ⟨ht, O1, ho, hr⟩ := HA2.out.2.2.2.1.newL (F' := k :: S.F) HB7.out (by rw [List.length_cons, hl0]) (by omega) rfl HX7.out
      have HA3 := Lib.hid (HA2.out.step ht ho hr)
      clear ht ho hr HX7 HB7 HA2 HX HB6
      generalize w6.setCell ⟨b, 3, none⟩ (.slice q6 (0 + 1) d6) = W3 at *
      obtain ⟨z0, z1, k0, k1⟩ := HA3.out.2.1
      obtain ⟨z2, z3, k2, k3⟩ := HA3.out.2.2.1
      have hR := HA3.out.2.1.lt
      have hR1 := HA3.out.2.2.1.lt
      obtain ⟨s0, s1, s2, s3, s4⟩ := HA3.out.end (.int .i64 (atV S k)) (.bool true)
      have HZ := Lib.hid (And.intro s2 (And.intro s3 s4))
      clear s2 s3 s4
      go_wp2
      refine bodyPost_ret (v := .agg #[.int .i64 (atV S k), .bool true]) (by simp [results, Try.results11, go_sem, s0, s1]) rfl ⟨rfl, HE.out _ _ HZ.out.1 (by rw [← HR0.out]; exact HZ.out.2.1) HZ.out.2.2⟩
    | some ad =>
      have hq7 : ∀ j u, (S.F.map encK)[j]? = some u → w6.cell? (ad.add j) = some u := reads_news HRD.out
      have HQ := Lib.hid hq7
      clear hqn hFc HRD hq7
      go_upto_region 7 with (first
        | (at_builtin; refine wpList_append_own_at _ rfl _ _ 36 rfl W2.heap.size 3 i (.int .i64 0) 1 8 Try.underlying36 hi1 hi2 hi3 hi4 rfl (by decide) (.slice q6 (0 + 1) d6) (0 + 1) _ rfl HX.out ad S.F.length c (S.F.map encK) rfl (by simp) HQ.out (by intro u hu; obtain ⟨m, -, rfl⟩ := List.mem_map.1 hu; rfl) (by unfold maxLen; omega) (by omega) HB6.out.size ?_; intro v' w7 hown7 hg7 _ _; have HX7 : Hid (w7.ownsRow W2.heap.size 3 1 v' (0 + 1 + S.F.length) ((k :: S.F).map encK)) := Lib.hid hown7; have HB7 : Hid (Below W2.heap.size W2 w7) := Lib.hid (HB6.out.grown hg7 HB6.out.size (fun k e => (HX.out.lt k e).1)); have HK7 := Lib.hid ((HA2.out.keep HB7.out).2.2.2.1); obtain ⟨q7, d7, e7⟩ := owns_any hown7; subst e7; obtain ⟨vx7, vi7, q9, c9, h47, -⟩ := HK7.out; have c37 := h47.cells.1.2.2.2; have f37 := h47.cells.2.2.2.2; have hb7 := h47.lt; clear h47 hown7 hg7)
        | go_in)
      clear c3 f3 hb c37 f37 hb7
      obtain ⟨ht, O1, ho, hr⟩ := HA2.out.2.2.2.1.newL (F' := k :: S.F) HB7.out (by rw [List.length_cons]; omega) (by omega) rfl HX7.out
      have HA3 := Lib.hid (HA2.out.step ht ho hr)
      clear ht ho hr HX7 HB7 HA2 HX HB6
      generalize w7.setCell ⟨b, 3, none⟩ (.slice q7 (0 + 1 + S.F.length) d7) = W3 at *
      obtain ⟨z0, z1, k0, k1⟩ := HA3.out.2.1
      obtain ⟨z2, z3, k2, k3⟩ := HA3.out.2.2.1
      have hR := HA3.out.2.1.lt
      have hR1 := HA3.out.2.2.1.lt
      obtain ⟨s0, s1, s2, s3, s4⟩ := HA3.out.end (.int .i64 (atV S k)) (.bool true)
      have HZ := Lib.hid (And.intro s2 (And.intro s3 s4))
      clear s2 s3 s4
      go_wp2
      refine bodyPost_ret (v := .agg #[.int .i64 (atV S k), .bool true]) (by simp [results, Try.results11, go_sem, s0, s1]) rfl ⟨rfl, HE.out _ _ HZ.out.1 (by rw [← HR0.out]; exact HZ.out.2.1) HZ.out.2.2⟩
end Go.Proofs.Ytjemahnhdgkpcaa
