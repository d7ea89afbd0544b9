/- The document's add: edges in order, with one more. -/
import Derived.Test.YtceejjgmepaonaaGreatDoorPk32
import Derived.Deep.Cut
import Derived.Deep.RegionWith
namespace Go.Proofs.YtceejjgmepaonaaGreatDoor
open Go.RowKit Go.ChangeShapes EdPure NumPure
theorem ne_beq {a b : Int} (h : a ≠ b) : (a == b) = false := by simpa using h
theorem add_pre {pre rest : List Ed} {e : Ed} (h : ∀ x ∈ pre, lt2 x e) : addL (pre ++ rest) e = (addL rest e).map (pre ++ ·) := by
  induction pre with
  | nil => simp
  | cons x r ih =>
    have hx := h x (by simp)
    have h1 : ¬ isAt e.1 e.2.1 x := by unfold isAt lt2 at *; omega
    have h2 : ¬ lt2 e x := by unfold lt2 at *; omega
    rw [List.cons_append]
    simp only [addL, if_neg h1, if_neg h2, ih (fun y hy => h y (by simp [hy])), Option.map_map]
    rfl
/-- How far it came: all so far are ahead of e; or e is in, and what is left is copied. -/
def AddSt (M : List Ed) (e : Ed) (k : Nat) (d : Bool) (G : List Ed) : Prop :=
  (d = false ∧ G = M.take k ∧ ∀ x ∈ M.take k, lt2 x e) ∨ (d = true ∧ addL M e = some (G ++ M.drop k) ∧ ∀ x ∈ M.drop k, lt2 e x)
theorem AddSt.now {M : List Ed} {e : Ed} {k : Nat} {G : List Ed} (h : AddSt M e k false G) (hk : k < M.length) : G = M.take k ∧ (∀ x ∈ M.take k, lt2 x e) ∧ addL M e = (addL (M[k] :: M.drop (k + 1)) e).map (M.take k ++ ·) := by
  rcases h with ⟨-, h1, h2⟩ | ⟨h1, -⟩
  · refine ⟨h1, h2, ?_⟩
    rw [← add_pre h2, ← List.drop_eq_getElem_cons hk, List.take_append_drop]
  · cases h1
theorem AddSt.after {M : List Ed} {e : Ed} {k : Nat} {G : List Ed} (h : AddSt M e k true G) (hk : k < M.length) : lt2 e M[k] ∧ AddSt M e (k + 1) true (G ++ [M[k]]) := by
  rcases h with ⟨h1, -⟩ | ⟨-, h1, h2⟩
  · cases h1
  · have hd := List.drop_eq_getElem_cons hk
    rw [hd] at h1 h2
    exact ⟨h2 _ List.mem_cons_self, Or.inr ⟨rfl, by rw [List.append_assoc]; exact h1, fun x hx => h2 x (List.mem_cons_of_mem _ hx)⟩⟩
theorem rest_above {M : List Ed} (hM : M.Pairwise lt2) {k : Nat} (hk : k < M.length) : ∀ x ∈ M.drop (k + 1), lt2 M[k] x := by
  have hd := List.drop_eq_getElem_cons hk
  have := hM.sublist (List.drop_sublist k M)
  rw [hd] at this
  exact (List.pairwise_cons.1 this).1
theorem AddSt.pass {M : List Ed} {e : Ed} {k : Nat} {G : List Ed} (h : AddSt M e k false G) (hk : k < M.length) (hx : lt2 M[k] e) : AddSt M e (k + 1) false (G ++ [M[k]]) := by
  obtain ⟨h1, h2, -⟩ := h.now hk
  have ht : M.take (k + 1) = M.take k ++ [M[k]] := List.take_succ_eq_append_getElem hk
  refine Or.inl ⟨rfl, by rw [ht, h1], fun x hx' => ?_⟩
  rw [ht, List.mem_append, List.mem_singleton] at hx'
  rcases hx' with hx' | rfl
  · exact h2 x hx'
  · exact hx
theorem AddSt.put {M : List Ed} (hM : M.Pairwise lt2) {e : Ed} {k : Nat} {G : List Ed} (h : AddSt M e k false G) (hk : k < M.length) (hx : lt2 e M[k]) : AddSt M e (k + 1) true (G ++ [e] ++ [M[k]]) := by
  obtain ⟨h1, h2, h3⟩ := h.now hk
  have n1 : ¬ isAt e.1 e.2.1 M[k] := by unfold isAt lt2 at *; omega
  simp only [addL, if_neg n1, if_pos hx, Option.map_some] at h3
  refine Or.inr ⟨rfl, by rw [h3, h1]; simp, fun x hx' => ?_⟩
  have := rest_above hM hk x hx'
  unfold lt2 at *; omega
theorem AddSt.same {M : List Ed} (hM : M.Pairwise lt2) {p q y x : Int} {k : Nat} {G : List Ed} (h : AddSt M (p, q, y) k false G) (hk : k < M.length) (he : M[k] = (p, q, x)) (hf : fitsB (x + y) = true) : AddSt M (p, q, y) (k + 1) true (G ++ [(p, q, x + y)]) := by
  obtain ⟨h1, h2, h3⟩ := h.now hk
  have n1 : isAt p q (p, q, x) := ⟨rfl, rfl⟩
  rw [he] at h3
  simp only [addL, if_pos n1, if_pos hf, Option.map_some] at h3
  refine Or.inr ⟨rfl, by rw [h3, h1]; simp, fun z hz => ?_⟩
  have := rest_above hM hk z hz
  rw [he] at this
  unfold lt2 at *; simp only at *; omega
theorem AddSt.fail {M : List Ed} {p q y x : Int} {k : Nat} {G : List Ed} (h : AddSt M (p, q, y) k false G) (hk : k < M.length) (he : M[k] = (p, q, x)) (hf : fitsB (x + y) = false) : addL M (p, q, y) = none := by
  obtain ⟨h1, h2, h3⟩ := h.now hk
  have n1 : isAt p q (p, q, x) := ⟨rfl, rfl⟩
  rw [he] at h3
  rw [h3]
  simp only [addL, if_pos n1, hf]
  simp
theorem AddSt.end0 {M : List Ed} {e : Ed} {G : List Ed} (h : AddSt M e M.length false G) : addL M e = some (G ++ [e]) := by
  rcases h with ⟨-, h1, h2⟩ | ⟨h1, -⟩
  · rw [List.take_length] at h1 h2
    have := add_pre (rest := []) h2
    rw [List.append_nil] at this
    rw [this, h1]; rfl
  · cases h1
theorem AddSt.end1 {M : List Ed} {e : Ed} {G : List Ed} (h : AddSt M e M.length true G) : addL M e = some G := by
  rcases h with ⟨h1, -⟩ | ⟨-, h1, -⟩
  · cases h1
  · rw [h1]; simp
theorem AddSt.len {M : List Ed} {e : Ed} {k : Nat} {d : Bool} {G : List Ed} (h : AddSt M e k d G) (hM : M.Pairwise lt2) (hk : k ≤ M.length) : G.length ≤ M.length + 1 := by
  rcases h with ⟨-, h1, -⟩ | ⟨-, h1, -⟩
  · rw [h1, List.length_take]; omega
  · have := (add_some hM h1).2.2.2.2
    rw [List.length_append] at this
    split at this <;> omega
theorem SplSt.on {w1 wr w' : World} {B : Nat} {G : List Ed} {s : Value} {u v x : Int} (h : SplSt w1 B G s u v x wr) (hb : Below wr.heap.size wr w') : SplSt w1 B G s u v x w' := ⟨h.1.on hb, h.2.1.on hb h.2.1.lt, h.2.2.1, h.2.2.2⟩
theorem own_agg {w3 : World} {B N : Nat} {T : TypeId} {A : List Ed} {q : Option Addr} {cap : Nat} (h : w3.ownsRow B T 3 (.slice q A.length cap) A.length (flatE A)) (hN : N < B) (y z : Value) :
    ReadsE ((w3.setCell ⟨N, 0, none⟩ y).setCell ⟨N, 1, none⟩ z).heap.size ((w3.setCell ⟨N, 0, none⟩ y).setCell ⟨N, 1, none⟩ z) q A := by
  obtain ⟨q', cap', e, hr, -, -⟩ := owns_readsE rfl (owns_setCell (p := ⟨N, 1, none⟩) (owns_setCell (p := ⟨N, 0, none⟩) h hN y) hN z)
  cases e
  exact hr
def AddRel (w0 : World) (M : List Ed) (e : Ed) (k : Nat) (d : Bool) (G : List Ed) (s : Value) (wr : World) : Prop := k ≤ M.length ∧ GrowE w0 G s wr ∧ AddSt M e k d G
/-- What a call that tells edges, or that there are none, answers. -/
def AggOut (r : Option (List Ed)) (w : World) (e : Ending) (w' : World) : Prop :=
  Below w.heap.size w w' ∧ ((r = none ∧ e = .returned (.agg #[.slice none 0 0, .bool false])) ∨
    ∃ A q cap, r = some A ∧ e = .returned (.agg #[.slice q A.length cap, .bool true]) ∧ ReadsE w'.heap.size w' q A)
theorem agg_sl {q : Option Addr} {a b c : Nat} {x y : Bool} (h1 : a = b) (h2 : x = y) : Ending.returned (.agg #[.slice q a c, .bool x]) = .returned (.agg #[.slice q b c, .bool y]) := by rw [h1, h2]
set_option maxRecDepth 100000 in
set_option maxHeartbeats 2000000 in
theorem refAddE_any (a : Option Addr) (c : Nat) (M : List Ed) (hl : M.length ≤ 1000000) (hM : GoodM M) (e : Ed) (he : InE e) (w : World) (hR : ReadsE w.heap.size w a M) :
    Calls Tryz.prog 48 #[.slice a M.length c, encE e] w fun r w' => AggOut (addL M e) w r w' := by
  obtain ⟨p, q, y⟩ := e
  have HR := Lib.hid hR
  have HM := Lib.hid hM
  have hy : In y := he.2.2
  have HB0 : Hid (Below w.heap.size w ((w.alloc (.cells #[.int .i64 p, .int .i64 q, .int .i64 y] 51)).alloc (.cells #[.slice none 0 0, .bool false] 78))) := Lib.hid below_two
  have HE0 : Hid (ThreeAt w.heap.size ((w.alloc (.cells #[.int .i64 p, .int .i64 q, .int .i64 y] 51)).alloc (.cells #[.slice none 0 0, .bool false] 78)) (.int .i64 p) (.int .i64 q) (.int .i64 y)) := Lib.hid (by
    have h := ThreeAt.new w (.int .i64 p) (.int .i64 q) (.int .i64 y) 51
    exact h.on ((Below.refl _ _).alloc (Nat.le_refl _) _) h.lt)
  have HF0 : Hid (TwoAt (w.heap.size + 1) ((w.alloc (.cells #[.int .i64 p, .int .i64 q, .int .i64 y] 51)).alloc (.cells #[.slice none 0 0, .bool false] 78)) (.slice none 0 0) (.bool false)) := Lib.hid (by
    have h := TwoAt.new (w.alloc (.cells #[.int .i64 p, .int .i64 q, .int .i64 y] 51)) (.slice none 0 0) (.bool false) 78
    simpa using h)
  clear hR hM he
  unfold encE
  simp only
  go_enter Tryz.func48, Tryz.ntmps48
  go_wp2
  generalize (w.alloc (.cells #[.int .i64 p, .int .i64 q, .int .i64 y] 51)).alloc (.cells #[.slice none 0 0, .bool false] 78) = w0 at *
  obtain ⟨N, hN⟩ : ∃ N, N = w.heap.size := ⟨_, rfl⟩
  rw [← hN] at HE0 HF0 ⊢
  have HNN := Lib.hid hN
  clear hN
  go_loopw [5, 6, 7] (fun s d i wr => ∃ (k : Nat) (b : Bool) (G : List Ed) (s' : Value), s' = s ∧ d = .bool b ∧ i = .int .i64 k ∧ Hid (AddRel w0 M (p, q, y) k b G s' wr)) (fun _ _ i _ => M.length - (intOf i).toNat)
  case atStart => exact ⟨0, false, [], _, rfl, rfl, rfl, Lib.hid ⟨Nat.zero_le _, GrowE.start w0, Or.inl ⟨rfl, by simp, by simp⟩⟩⟩
  case round =>
    obtain ⟨k, d, G, s, rfl, rfl, rfl, HK⟩ := hrel
    have i0 : (0 : Int) ≤ (k : Int) := by omega
    obtain ⟨e0, e1, e2, -, -, -⟩ := HE0.out.on HK.out.2.1.1 HE0.out.lt
    have hNr : N < wr.heap.size := Nat.lt_of_lt_of_le HE0.out.lt HK.out.2.1.1.size
    have HF1 := Lib.hid (HF0.out.on HK.out.2.1.1 HF0.out.lt)
    have hF1 : N + 1 < wr.heap.size := HF1.out.lt
    have HBr : Hid (Below w.heap.size w wr) := Lib.hid (HB0.out.trans (HK.out.2.1.1.mono HB0.out.size))
    have hlG : G.length ≤ 1000001 := by have := HK.out.2.2.len HM.out.1 HK.out.1; omega
    have hbs : w0.heap.size ≤ wr.heap.size := HK.out.2.1.1.size
    obtain ⟨i9, hi, hz0, hz1, hz2⟩ := info_edge
    by_cases hlt : k < M.length
    · have i1 : (k : Int) < (M.length : Int) := by omega
      obtain ⟨u, v, x, he⟩ : ∃ u v x, M[k] = (u, v, x) := ⟨_, _, _, rfl⟩
      obtain ⟨b, off, rfl, hbw, hbr, c0, c1, c2⟩ := HR.out.cells hlt HBr.out he
      have hx : In x := by have := (HM.out.2 _ (List.getElem_mem hlt)).2.2.2; rwa [he] at this
      have HT : Hid (SplSt w0 wr.heap.size G s u v x (wr.alloc (.cells #[.int .i64 u, .int .i64 v, .int .i64 x] 51))) := Lib.hid (SplSt.start HK.out.2.1 _)
      have HE := Lib.hid he
      clear he
      cases d
      · have HA := Lib.hid HK.out.2.2
        by_cases h1 : u < p ∨ (u = p ∧ v < q)
        · have HN : Hid (AddSt M (p, q, y) (k + 1) false (G ++ [(u, v, x)])) := Lib.hid (by rw [← HE.out]; exact HA.out.pass hlt (by rw [HE.out]; exact h1))
          rcases h1 with h1 | ⟨rfl, h1⟩
          · have t1 : (u == p) = false := ne_beq (by omega)
            have t2 : ¬ p < u := by omega
            go_wp2_with (first
              | (at_builtin; refine wpList_append_own_at _ rfl _ _ 22 rfl w0.heap.size 51 i9 (.agg #[.int .i64 0, .int .i64 0, .int .i64 0]) 3 24 Tryz.underlying22 hi hz0 hz1 hz2 rfl (by decide) s G.length (flatE G) rfl (HT.out.1.2.alloc _) ⟨wr.heap.size + 1, 0, none⟩ 1 1 (cellE (u, v, x)) rfl rfl (three_newsAt (by simp)) ones_edge (by unfold maxLen; omega) (by omega) (by simp; omega) ?_; intro s3 w3 hown hg _ hl3; have HZ := Lib.hid (HT.out.1.step (u, v, x) hown hg); clear hown hg hl3))
            exact ⟨⟨k + 1, false, _, s3, rfl, rfl, by go_num, Lib.hid ⟨hlt, HZ.out, HN.out⟩⟩, by simp [intOf]; omega⟩
          · have t1 : (v == q) = false := ne_beq (by omega)
            have t2 : ¬ q < v := by omega
            go_wp2_with (first
              | (at_builtin; refine wpList_append_own_at _ rfl _ _ 22 rfl w0.heap.size 51 i9 (.agg #[.int .i64 0, .int .i64 0, .int .i64 0]) 3 24 Tryz.underlying22 hi hz0 hz1 hz2 rfl (by decide) s G.length (flatE G) rfl (HT.out.1.2.alloc _) ⟨wr.heap.size + 1, 0, none⟩ 1 1 (cellE (u, v, x)) rfl rfl (three_newsAt (by simp)) ones_edge (by unfold maxLen; omega) (by omega) (by simp; omega) ?_; intro s3 w3 hown hg _ hl3; have HZ := Lib.hid (HT.out.1.step (u, v, x) hown hg); clear hown hg hl3))
            exact ⟨⟨k + 1, false, _, s3, rfl, rfl, by go_num, Lib.hid ⟨hlt, HZ.out, HN.out⟩⟩, by simp [intOf]; omega⟩
        by_cases h2 : p < u ∨ (p = u ∧ q < v)
        · have HN : Hid (AddSt M (p, q, y) (k + 1) true (G ++ [(p, q, y)] ++ [(u, v, x)])) := Lib.hid (by have := HA.out.put HM.out.1 hlt (by rw [HE.out]; exact h2); rwa [HE.out] at this)
          rcases h2 with h2 | ⟨rfl, h2⟩
          · have t1 : (u == p) = false := ne_beq (by omega)
            go_wp2_with (first
              | (at_builtin; refine wpList_append_own_at _ rfl _ _ 22 rfl w0.heap.size 51 i9 (.agg #[.int .i64 0, .int .i64 0, .int .i64 0]) 3 24 Tryz.underlying22 hi hz0 hz1 hz2 rfl (by decide) s3 (G ++ [(p, q, y)]).length (flatE (G ++ [(p, q, y)])) rfl (HZ.out.1.2.alloc _) ⟨w3.heap.size, 0, none⟩ 1 1 (cellE (u, v, x)) rfl rfl (three_newsAt rfl) ones_edge (by unfold maxLen; omega) (by omega) (by simp; omega) ?_; intro s4 w4 hown hg _ hl3; have HZ2 := Lib.hid (HZ.out.1.step (u, v, x) hown hg); clear hown hg hl3)
              | (at_builtin; refine wpList_append_own_at _ rfl _ _ 22 rfl w0.heap.size 51 i9 (.agg #[.int .i64 0, .int .i64 0, .int .i64 0]) 3 24 Tryz.underlying22 hi hz0 hz1 hz2 rfl (by decide) s G.length (flatE G) rfl (HT.out.1.2.alloc _) ⟨wr.heap.size + 1, 0, none⟩ 1 1 (cellE (p, q, y)) rfl rfl (three_newsAt (by simp)) ones_edge (by unfold maxLen; omega) (by omega) (by simp; omega) ?_; intro s3 w3 hown hg _ hl3; have HZ := Lib.hid (HT.out.step (p, q, y) hown hg hl3); obtain ⟨k0, k1, k2, -, -, -⟩ := HZ.out.2.1; have hbs3 : w0.heap.size ≤ w3.heap.size := HZ.out.1.1.size; have hl1 : (G ++ [(p, q, y)]).length ≤ 1000002 := (by rw [List.length_append, List.length_singleton]; omega); clear hown hg hl3))
            exact ⟨⟨k + 1, true, _, s4, rfl, rfl, by go_num, Lib.hid ⟨hlt, HZ2.out, HN.out⟩⟩, by simp [intOf]; omega⟩
          · have t1 : (v == q) = false := ne_beq (by omega)
            have t2 : ¬ v < q := by omega
            go_wp2_with (first
              | (at_builtin; refine wpList_append_own_at _ rfl _ _ 22 rfl w0.heap.size 51 i9 (.agg #[.int .i64 0, .int .i64 0, .int .i64 0]) 3 24 Tryz.underlying22 hi hz0 hz1 hz2 rfl (by decide) s3 (G ++ [(p, q, y)]).length (flatE (G ++ [(p, q, y)])) rfl (HZ.out.1.2.alloc _) ⟨w3.heap.size, 0, none⟩ 1 1 (cellE (p, v, x)) rfl rfl (three_newsAt rfl) ones_edge (by unfold maxLen; omega) (by omega) (by simp; omega) ?_; intro s4 w4 hown hg _ hl3; have HZ2 := Lib.hid (HZ.out.1.step (p, v, x) hown hg); clear hown hg hl3)
              | (at_builtin; refine wpList_append_own_at _ rfl _ _ 22 rfl w0.heap.size 51 i9 (.agg #[.int .i64 0, .int .i64 0, .int .i64 0]) 3 24 Tryz.underlying22 hi hz0 hz1 hz2 rfl (by decide) s G.length (flatE G) rfl (HT.out.1.2.alloc _) ⟨wr.heap.size + 1, 0, none⟩ 1 1 (cellE (p, q, y)) rfl rfl (three_newsAt (by simp)) ones_edge (by unfold maxLen; omega) (by omega) (by simp; omega) ?_; intro s3 w3 hown hg _ hl3; have HZ := Lib.hid (HT.out.step (p, q, y) hown hg hl3); obtain ⟨k0, k1, k2, -, -, -⟩ := HZ.out.2.1; have hbs3 : w0.heap.size ≤ w3.heap.size := HZ.out.1.1.size; have hl1 : (G ++ [(p, q, y)]).length ≤ 1000002 := (by rw [List.length_append, List.length_singleton]; omega); clear hown hg hl3))
            exact ⟨⟨k + 1, true, _, s4, rfl, rfl, by go_num, Lib.hid ⟨hlt, HZ2.out, HN.out⟩⟩, by simp [intOf]; omega⟩
        obtain ⟨rfl, rfl⟩ : u = p ∧ v = q := by omega
        clear h1 h2
        have HC := Lib.hid (fun W => refAdd_any x y hx hy W)
        have hbx : wr.heap.size < (wr.alloc (.cells #[.int .i64 u, .int .i64 v, .int .i64 x] 51)).heap.size := by simp
        cases hf : fitsB (x + y)
        · have HX : Hid (addL M (u, v, y) = none) := Lib.hid (HA.out.fail hlt HE.out hf)
          rw [hf] at HC
          go_wp2_with fail
          refine (HC.out _).mono ?_
          rintro e w2 ⟨rfl, hb2⟩
          have hbb : Below wr.heap.size wr w2 := ((Below.refl wr.heap.size wr).alloc (Nat.le_refl _) _).trans (hb2.mono (by simp))
          have HF2 := Lib.hid (HF1.out.on hbb HF1.out.lt)
          have HB2 : Hid (Below w.heap.size w w2) := Lib.hid (HBr.out.trans (hbb.mono HBr.out.size))
          have hR := TwoAt.new w2 (.int .i64 (cut (x + y))) (.bool false) 120
          have hF5 := HF2.out.on ((Below.refl _ w2).alloc (Nat.le_refl _) (.cells #[.int .i64 (cut (x + y)), .bool false] 120)) HF2.out.lt
          have hB5 := HB2.out.alloc HB2.out.size (.cells #[.int .i64 (cut (x + y)), .bool false] 120)
          clear hb2 hbb HT
          go_upto_region 9 with fail
          generalize w2.alloc (.cells #[.int .i64 (cut (x + y)), .bool false] 120) = w5 at *
          have HB5 := Lib.hid hB5
          obtain ⟨m0, m1, g0, g1⟩ := hF5
          obtain ⟨r0, r1, -, -⟩ := hR
          clear hB5
          go_wp2
          refine bodyPost_ret (v := .agg #[.slice none 0 0, .bool false]) (by simp [results, Tryz.results48, go_sem, m0, m1]) rfl ⟨?_, Or.inl ⟨HX.out, rfl⟩⟩
          have hw := HNN.out
          exact (HB5.out.setCell (p := ⟨N + 1, 0, none⟩) (show w.heap.size ≤ N + 1 by omega) _).setCell (p := ⟨N + 1, 1, none⟩) (show w.heap.size ≤ N + 1 by omega) _
        · have hc : cut (x + y) = x + y := cut_in ((fits_iff _).1 hf)
          have HN : Hid (AddSt M (u, v, y) (k + 1) true (G ++ [(u, v, x + y)])) := Lib.hid (HA.out.same HM.out.1 hlt HE.out hf)
          rw [hf, hc] at HC
          clear hf hc
          go_wp2_with fail
          refine (HC.out _).mono ?_
          rintro e w2 ⟨rfl, hb2⟩
          have hR := TwoAt.new w2 (.int .i64 (x + y)) (.bool true) 120
          have hT5 := (HT.out.on hb2).on ((Below.refl _ w2).alloc (Nat.le_refl _) (.cells #[.int .i64 (x + y), .bool true] 120))
          have hB2 : wr.heap.size < (w2.alloc (.cells #[.int .i64 (x + y), .bool true] 120)).heap.size := by have := hb2.size; simp; omega
          clear hb2 HT
          go_upto_region 9 with fail
          generalize w2.alloc (.cells #[.int .i64 (x + y), .bool true] 120) = w5 at *
          have HT3 := Lib.hid (hT5.store (x + y))
          obtain ⟨m0, m1, m2, g0, g1, g2⟩ := hT5.2.1
          obtain ⟨r0, r1, -, -⟩ := hR
          clear hT5
          have hbs2 : w0.heap.size ≤ w5.heap.size := by omega
          go_wp2_with (first
            | (at_builtin; refine wpList_append_own_at _ rfl _ _ 22 rfl w0.heap.size 51 i9 (.agg #[.int .i64 0, .int .i64 0, .int .i64 0]) 3 24 Tryz.underlying22 hi hz0 hz1 hz2 rfl (by decide) s G.length (flatE G) rfl (HT3.out.1.2.alloc _) ⟨w5.heap.size, 0, none⟩ 1 1 (cellE (u, v, x + y)) rfl rfl (three_newsAt (by simp)) ones_edge (by unfold maxLen; omega) (by omega) (by simp; omega) ?_; intro s3 w3 hown hg _ hl3; have HZ := Lib.hid (HT3.out.1.step (u, v, x + y) hown hg); clear hown hg hl3))
          exact ⟨⟨k + 1, true, _, s3, rfl, rfl, by go_num, Lib.hid ⟨hlt, HZ.out, HN.out⟩⟩, by simp [intOf]; omega⟩
      · have HA := Lib.hid HK.out.2.2
        obtain ⟨h2, hN⟩ := HA.out.after hlt
        rw [HE.out] at h2 hN
        have HN := Lib.hid hN
        clear hN
        rcases h2 with h2 | ⟨h3, h2⟩
        · simp only at h2
          have t1 : (u == p) = false := ne_beq (by omega)
          go_wp2_with (first
            | (at_builtin; refine wpList_append_own_at _ rfl _ _ 22 rfl w0.heap.size 51 i9 (.agg #[.int .i64 0, .int .i64 0, .int .i64 0]) 3 24 Tryz.underlying22 hi hz0 hz1 hz2 rfl (by decide) s G.length (flatE G) rfl (HT.out.1.2.alloc _) ⟨wr.heap.size + 1, 0, none⟩ 1 1 (cellE (u, v, x)) rfl rfl (three_newsAt (by simp)) ones_edge (by unfold maxLen; omega) (by omega) (by simp; omega) ?_; intro s3 w3 hown hg _ hl3; have HZ := Lib.hid (HT.out.1.step (u, v, x) hown hg); clear hown hg hl3))
          exact ⟨⟨k + 1, true, _, s3, rfl, rfl, by go_num, Lib.hid ⟨hlt, HZ.out, HN.out⟩⟩, by simp [intOf]; omega⟩
        · simp only at h2 h3
          subst h3
          have t1 : (v == q) = false := ne_beq (by omega)
          go_wp2_with (first
            | (at_builtin; refine wpList_append_own_at _ rfl _ _ 22 rfl w0.heap.size 51 i9 (.agg #[.int .i64 0, .int .i64 0, .int .i64 0]) 3 24 Tryz.underlying22 hi hz0 hz1 hz2 rfl (by decide) s G.length (flatE G) rfl (HT.out.1.2.alloc _) ⟨wr.heap.size + 1, 0, none⟩ 1 1 (cellE (p, v, x)) rfl rfl (three_newsAt (by simp)) ones_edge (by unfold maxLen; omega) (by omega) (by simp; omega) ?_; intro s3 w3 hown hg _ hl3; have HZ := Lib.hid (HT.out.1.step (p, v, x) hown hg); clear hown hg hl3))
          exact ⟨⟨k + 1, true, _, s3, rfl, rfl, by go_num, Lib.hid ⟨hlt, HZ.out, HN.out⟩⟩, by simp [intOf]; omega⟩
    · have hk : k = M.length := by have := HK.out.1; omega
      subst hk
      have hNb : N + 1 < w0.heap.size := HF0.out.lt
      cases d
      · have HX : Hid (addL M (p, q, y) = some (G ++ [(p, q, y)])) := Lib.hid HK.out.2.2.end0
        go_upto_region 19 with (first
          | (at_builtin; refine wpList_append_own_at _ rfl _ _ 22 rfl w0.heap.size 51 i9 (.agg #[.int .i64 0, .int .i64 0, .int .i64 0]) 3 24 Tryz.underlying22 hi hz0 hz1 hz2 rfl (by decide) s G.length (flatE G) rfl (HK.out.2.1.2.alloc _) ⟨wr.heap.size, 0, none⟩ 1 1 (cellE (p, q, y)) rfl rfl (three_newsAt rfl) ones_edge (by unfold maxLen; omega) (by omega) (by simp; omega) ?_; intro s3 w3 hown hg _ hl3; have HZ := Lib.hid (HK.out.2.1.step (p, q, y) hown hg); clear hown hg hl3))
        obtain ⟨m0, m1, g0, g1⟩ := HF0.out.on HZ.out.1 HF0.out.lt
        obtain ⟨q3, cap3, rfl, -, -⟩ := HZ.out.reads
        have HB3 : Hid (Below w.heap.size w w3) := Lib.hid (HB0.out.trans (HZ.out.1.mono HB0.out.size))
        go_wp2
        refine bodyPost_ret (v := .agg #[.slice q3 (G ++ [(p, q, y)]).length cap3, .bool true]) (by simp [results, Tryz.results48, go_sem, m0, m1]) rfl ⟨?_, Or.inr ⟨G ++ [(p, q, y)], q3, cap3, HX.out, rfl, own_agg HZ.out.2 hNb _ _⟩⟩
        have hw := HNN.out
        exact (HB3.out.setCell (p := ⟨N + 1, 0, none⟩) (show w.heap.size ≤ N + 1 by omega) _).setCell (p := ⟨N + 1, 1, none⟩) (show w.heap.size ≤ N + 1 by omega) _
      · have HX : Hid (addL M (p, q, y) = some G) := Lib.hid HK.out.2.2.end1
        obtain ⟨m0, m1, g0, g1⟩ := HF1.out
        obtain ⟨q3, cap3, rfl, -, -⟩ := HK.out.2.1.reads
        go_wp2
        refine bodyPost_ret (v := .agg #[.slice q3 G.length cap3, .bool true]) (by simp [results, Tryz.results48, go_sem, m0, m1]) rfl ⟨?_, Or.inr ⟨G, q3, cap3, HX.out, rfl, own_agg HK.out.2.1.2 hNb _ _⟩⟩
        have hw := HNN.out
        exact (HBr.out.setCell (p := ⟨N + 1, 0, none⟩) (show w.heap.size ≤ N + 1 by omega) _).setCell (p := ⟨N + 1, 1, none⟩) (show w.heap.size ≤ N + 1 by omega) _
end Go.Proofs.YtceejjgmepaonaaGreatDoor
