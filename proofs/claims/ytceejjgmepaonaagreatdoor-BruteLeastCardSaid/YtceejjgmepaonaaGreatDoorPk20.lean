/- Texts that the laws of this seat stand on, part 20. -/
import Derived.Test.YtceejjgmepaonaaGreatDoorPk19
import Derived.Deep.Cut
import Derived.Deep.RegionWith
import Derived.BigQuiet
import Derived.StillTailTactics
import Derived.Lib.SliceRun
/- Contracts of put and starsOf: a row of stars is filled by merged edges. -/
namespace Go.Proofs.YtceejjgmepaonaaGreatDoor
open Go.RowKit Go.ChangeShapes EdPure NtPure NumPure
theorem owns_formN {w : World} {B : Nat} {e : TypeId} {size n : Nat} {v : Value} {xs : List Value} (h : w.ownsRow B e size v n xs) : ∃ q c, v = .slice q n c := by
  obtain ⟨h1, ⟨rfl, rfl⟩ | ⟨g, cap, cur, rfl, h3, h4, h5⟩⟩ := h
  · exact ⟨_, _, rfl⟩
  · exact ⟨_, _, rfl⟩
theorem starPut_any (B b n k : Nat) (L : Nat → Int × List Int) (V : Nat → Value) (v x : Int) (w : World) (h : StV B b n w L V) (hk : k < n) (h0 : -9223372036854775808 ≤ (L k).1 + x) (h1 : (L k).1 + x ≤ 9223372036854775807) (hl : (L k).2.length ≤ 1048576) :
    Calls Tryz.prog 42 #[.pointer (some ⟨b, k * 2, none⟩), .int .i64 v, .int .i64 x] w fun e w' => e = .returned (.tuple #[]) ∧ Below B w w' ∧ (∃ v', StV B b n w' (updN L k ((L k).1 + x, (L k).2 ++ [v])) (updN V k v')) ∧
      ∀ j, j < w.heap.size → j ≠ b → (V k).ownBlock ≠ some j → w'.heap[j]? = w.heap[j]? := by
  have hB := h.1.1
  have hbw := h.1.2
  obtain ⟨c0, c1, f0, f1⟩ := h.2.1 k hk
  obtain ⟨q, c, hV⟩ := owns_formN (h.2.2.1 k hk).1
  have H := Lib.hid h
  have HK := Lib.hid hk
  have HV := Lib.hid hV
  rw [hV] at c1
  generalize hd : (L k).1 = d at *
  generalize hL : (L k).2 = l at *
  have HD := Lib.hid hd
  have HL := Lib.hid hL
  obtain ⟨i1, hi1, hi2, hi3, hi4⟩ := info_parts (show (Tryz.prog.info? 3).map (fun i => (i.zero, i.size, i.bytes)) = some (some (.int .i64 0), 1, 8) by kernel_rfl)
  clear h hk hV hd hL
  have HB := Lib.hid (And.intro hB hbw)
  go_enter Tryz.func42, Tryz.ntmps42
  go_upto_region 1 with fail
  have HW : Hid (StV B b n (w.setCell ⟨b, k * 2, none⟩ (.int .i64 (d + x))) (updN L k (d + x, l)) V) := Lib.hid (by
    have := H.out.deg HK.out (d + x)
    rwa [HL.out] at this)
  have HG : Hid (Below B w (w.setCell ⟨b, k * 2, none⟩ (.int .i64 (d + x))) ∧ ∀ j, j ≠ b → (w.setCell ⟨b, k * 2, none⟩ (.int .i64 (d + x))).heap[j]? = w.heap[j]?) :=
    Lib.hid ⟨(Below.refl _ _).setCell (p := ⟨b, k * 2, none⟩) HB.out.1 _, fun j hj => Below.heap_setCell _ _ _ j (fun e => hj (by rw [e]))⟩
  have HS : Hid ((w.setCell ⟨b, k * 2, none⟩ (.int .i64 (d + x))).heap.size = w.heap.size) := Lib.hid (by simp)
  clear c0 c1 f0 f1 hbw
  generalize w.setCell ⟨b, k * 2, none⟩ (.int .i64 (d + x)) = W at *
  have hbw := HW.out.1.2
  obtain ⟨c0, c1, f0, f1⟩ := HW.out.2.1 k HK.out
  rw [HV.out] at c1
  have HO : Hid (W.ownsRow B 3 1 (.slice q l.length c) l.length (l.map encZ)) := Lib.hid (by
    have := (HW.out.2.2.1 k HK.out).1
    rw [updN_at] at this
    rwa [HV.out] at this)
  go_wp2_with (first
    | (at_builtin; refine wpList_append_own_at _ rfl _ _ 28 rfl B 3 i1 (.int .i64 0) 1 8 Tryz.underlying28 hi1 hi2 hi3 hi4 rfl (by decide) (.slice q l.length c) l.length (l.map encZ) rfl (HO.out.alloc _) ⟨W.heap.size, 0, none⟩ 1 1 [.int .i64 v] rfl rfl one_news (by intro u hu; simp at hu; subst hu; rfl) (by unfold maxLen; omega) (by omega) (by have := HB.out.1; simp; omega) ?_; intro v' w6 hown6 hg6 _ hat6; obtain ⟨q6, d6, e6⟩ := owns_formN hown6; subst e6
       have hp := HW.out.put (x := v) HK.out ((Below.refl W.heap.size W).alloc (Nat.le_refl _) (.cells #[.int .i64 v] 3)) (by rw [updN_at]; exact hown6) (by rw [HV.out]; exact hg6) (by rw [HV.out]; exact hat6)
       rw [HV.out, updN_at] at hp
       obtain ⟨⟨c6, f6, b6⟩, hst⟩ := hp
       have HP := Lib.hid hst
       have HB6 : Hid (Below B w w6 ∧ ∀ j, j < w.heap.size → j ≠ b → (V k).ownBlock ≠ some j → w6.heap[j]? = w.heap[j]?) := Lib.hid ⟨(HG.out.1.trans ((Below.refl B W).alloc (by have := HB.out.1; omega) _)).grown hg6 (by simp; have := HB.out.1; omega) (fun j hj => (HO.out.lt j hj).1),
         fun j h1 h2 h3 => (hg6.block j (by simp; have := HS.out; omega) (fun e => h3 (by rw [HV.out]; exact e.symm))).trans ((((Below.refl W.heap.size W).alloc (Nat.le_refl _) (.cells #[.int .i64 v] 3)).block j (by have := HS.out; omega)).trans (HG.out.2 j h2))⟩
       clear hst hown6 hg6 hat6 c0 c1 f0 f1 hbw)
    | go_in)
  go_end0
  refine ⟨rfl, HB6.out.1.setCell (p := ⟨b, k * 2 + 1, none⟩) HB.out.1 _, ⟨.slice q6 (l.length + 1) d6, ?_⟩, fun j h1 h2 h3 => ?_⟩
  · have e : updN (updN L k (d + x, l)) k (d + x, l ++ [v]) = updN L k (d + x, l ++ [v]) := by
      funext i
      unfold updN
      by_cases hi : i = k
      · simp [hi]
      · simp [hi]
    have := HP.out
    rw [e] at this
    exact this
  · exact (Below.heap_setCell _ _ _ j (fun e => h2 (by rw [e]))).trans (HB6.out.2 j h1 h2 h3)
/-- The stars of the first k edges. -/
def starsAt (M : List Ed) (k : Nat) (i : Nat) : Int × List Int := (degE (M.take k) i, nearE (M.take k) i)
theorem near_append (L M : List Ed) (v : Int) : nearE (L ++ M) v = nearE L v ++ nearE M v := by unfold nearE; rw [List.filter_append, List.map_append]
theorem near_one (e : Ed) (v : Int) : nearE [e] v = if atB v e = true then [othE v e] else [] := by
  unfold nearE
  by_cases h : atB v e = true
  · rw [List.filter_cons_of_pos h, if_pos h]; rfl
  · rw [List.filter_cons_of_neg h, if_neg h]; rfl
theorem deg_one (e : Ed) (v : Int) : degE [e] v = ofE v e := by unfold degE; simp
theorem stars_step {M : List Ed} {k u v : Nat} {x : Int} (hk : k < M.length) (he : M[k] = ((u : Int), (v : Int), x)) (huv : u ≠ v) :
    starsAt M (k + 1) = updN (updN (starsAt M k) u ((starsAt M k u).1 + x, (starsAt M k u).2 ++ [(v : Int)])) v ((starsAt M k v).1 + x, (starsAt M k v).2 ++ [(u : Int)]) := by
  funext i
  have hd : ∀ z : Int, degE (M.take (k + 1)) z = degE (M.take k) z + ofE z ((u : Int), (v : Int), x) := fun z => by rw [take_snoc _ _ hk, deg_append, deg_one, he]
  have hn : ∀ z : Int, nearE (M.take (k + 1)) z = nearE (M.take k) z ++ (if atB z ((u : Int), (v : Int), x) = true then [othE z ((u : Int), (v : Int), x)] else []) := fun z => by rw [take_snoc _ _ hk, near_append, near_one, he]
  unfold starsAt
  rw [hd, hn]
  unfold ofE atB othE
  simp only [decide_eq_true_eq]
  by_cases h1 : i = v
  · subst h1
    rw [updN_at, if_pos (by omega), if_pos (by omega), if_neg (by omega)]
  · rw [updN_ne _ _ h1]
    by_cases h2 : i = u
    · subst h2
      rw [updN_at, if_pos (by omega), if_pos (by omega), if_pos rfl]
    · rw [updN_ne _ _ h2, if_neg (by omega), if_neg (by omega)]
      simp
theorem near_len (M : List Ed) (v : Int) : (nearE M v).length ≤ M.length := by unfold nearE; rw [List.length_map]; exact List.length_filter_le _ _
theorem stars_rng {n : Int} {M : List Ed} (h : GoodN n M) (k i : Nat) : 0 ≤ (starsAt M k i).1 ∧ (starsAt M k i).1 ≤ 2251799813685248 ∧ (starsAt M k i).2.length ≤ M.length := by
  have hn : NonNeg (M.take k) := fun e he => h.non e (List.mem_of_mem_take he)
  have h1 := deg_rng hn i
  have h2 : allW (M.take k) ≤ allW M := by
    have e : allW M = allW (M.take k) + allW (M.drop k) := by rw [← allW_append, List.take_append_drop]
    have hd : ∀ l : List Ed, NonNeg l → 0 ≤ allW l := fun l hl => by
      induction l with
      | nil => simp [allW]
      | cons a r ih => have := ih (fun x hx => hl x (by simp [hx])); have := hl a (by simp); rw [allW_cons]; omega
    have := hd (M.drop k) (fun e he => h.non e (List.mem_of_mem_drop he))
    omega
  have h3 := h.2.2
  refine ⟨h1.1, by unfold starsAt; omega, Nat.le_trans (near_len _ _) (List.length_take_le' _ _)⟩
/-- While a row is filled. -/
def StsRel (w0 : World) (n : Nat) (M : List Ed) (k : Nat) (wr : World) : Prop := k ≤ M.length ∧ Below w0.heap.size w0 wr ∧ ∃ V, StV w0.heap.size w0.heap.size n wr (starsAt M k) V
theorem make_stars (K : Nat) (hk : K ≤ 10000) (w : World) :
    (Instr.makeSlice 59 (.int .i64 (K : Int)) (.int .i64 (K : Int))).run Tryz.prog w = .ok (.slice (some ⟨w.heap.size, 0, none⟩) K K) (w.alloc (.cells (madeCells #[.int .i64 0, .slice none 0 0] (K * 2)) 96)) := by
  obtain ⟨i, h1, h2, h3, h4⟩ := info_of (P := Tryz.prog) (T := 96) (z := .agg #[.int .i64 0, .slice none 0 0]) (a := 2) (b := 32) (by kernel_rfl)
  rw [run_make w 59 96 i _ Tryz.underlying59 h1 h2 .i64 .i64 (K : Int) (K : Int) (by omega) (by omega) (by rw [h4]; omega) (by omega), h3]
  simp [Value.cells]
theorem stars_made (w : World) (n : Nat) (M : List Ed) : StsRel w n M 0 (w.alloc (.cells (madeCells #[.int .i64 0, .slice none 0 0] (n * 2)) 96)) := by
  refine ⟨Nat.zero_le _, (Below.refl _ _).alloc (Nat.le_refl _) _, fun _ => .slice none 0 0, ⟨Nat.le_refl _, by simp⟩, fun i hi => ?_, fun i hi => ?_, fun i j _ _ _ => Or.inl rfl⟩
  · have e0 : i * 2 % 2 = 0 := by omega
    have e1 : (i * 2 + 1) % 2 = 1 := by omega
    refine ⟨?_, ?_, by rw [World.frozen?_alloc_at _ _ _ _ rfl], by rw [World.frozen?_alloc_at _ _ _ _ rfl]⟩
    · rw [World.cell?_alloc_at _ _ _ _ rfl]
      unfold madeCells
      rw [Array.getElem?_map]
      simp [show i * 2 < n * 2 by omega, starsAt, degE]
    · rw [World.cell?_alloc_at _ _ _ _ rfl]
      unfold madeCells
      rw [Array.getElem?_map]
      simp [show i * 2 + 1 < n * 2 by omega, e1]
  · simp only [starsAt, nearE, List.take_zero, List.filter_nil, List.map_nil, List.length_nil]
    exact ⟨World.ownsRow_nil _ _ _ _, Or.inl rfl⟩
/-- Beside a row of stars the edge that is put. -/
def PutSt (w0 : World) (n K : Nat) (L : Nat → Int × List Int) (V : Nat → Value) (u v x : Int) (W : World) : Prop :=
  Below w0.heap.size w0 W ∧ StV w0.heap.size w0.heap.size n W L V ∧ ThreeAt K W (.int .i64 u) (.int .i64 v) (.int .i64 x) ∧ (w0.heap.size < K ∧ w0.heap.size ≠ K)
theorem three_sameN {b : Nat} {w w' : World} {u v x : Value} (h : ThreeAt b w u v x) (hk : w'.heap[b]? = w.heap[b]?) : ThreeAt b w' u v x := by
  obtain ⟨h0, h1, h2, f0, f1, f2⟩ := h
  exact ⟨(World.cell?_of_block hk).trans h0, (World.cell?_of_block hk).trans h1, (World.cell?_of_block hk).trans h2, (World.frozen?_of_block hk).trans f0, (World.frozen?_of_block hk).trans f1, (World.frozen?_of_block hk).trans f2⟩
theorem PutSt.next {w0 : World} {n K : Nat} {L L' : Nat → Int × List Int} {V V' : Nat → Value} {u v x : Int} {W W' : World} (h : PutSt w0 n K L V u v x W) {k : Nat} (hne : (V k).ownBlock ≠ some K) (hb : Below w0.heap.size W W') (hv : StV w0.heap.size w0.heap.size n W' L' V')
    (hf : ∀ j, j < W.heap.size → j ≠ w0.heap.size → (V k).ownBlock ≠ some j → W'.heap[j]? = W.heap[j]?) : PutSt w0 n K L' V' u v x W' :=
  ⟨h.1.trans hb, hv, three_sameN h.2.2.1 (hf K h.2.2.1.lt (fun e => h.2.2.2.2 e.symm) hne), h.2.2.2⟩
theorem PutSt.drawn {w0 : World} {n K : Nat} {L : Nat → Int × List Int} {V : Nat → Value} {u v x : Int} {W : World} (h : PutSt w0 n K L V u v x W) (k : Nat) : PutSt w0 n K L V u v x (W.drewN k) :=
  ⟨below_drewN h.1 k, h.2.1.keep (below_drewN (Below.refl _ _) k), three_sameN h.2.2.1 rfl, h.2.2.2⟩
set_option maxRecDepth 100000 in
set_option maxHeartbeats 1000000 in
theorem starsOf_any (n : Nat) (hn : n ≤ 4096) (a : Option Addr) (c : Nat) (M : List Ed) (hM : GoodN n M) (hl : M.length ≤ 1048576) (w : World) (hR : ReadsE w.heap.size w a M) :
    Calls Tryz.prog 18 #[.int .i64 (n : Int), .slice a M.length c] w fun e w' => Below w.heap.size w w' ∧ ∃ b, e = .returned (.slice (some ⟨b, 0, none⟩) n n) ∧ StarsR w'.heap.size w' (some ⟨b, 0, none⟩) n M := by
  have HR := Lib.hid hR
  have HM := Lib.hid hM
  have hmk := make_stars n (by omega) w
  have HS : Hid (StsRel w n M 0 (w.alloc (.cells (madeCells #[.int .i64 0, .slice none 0 0] (n * 2)) 96))) := Lib.hid (stars_made w n M)
  clear hR hM
  go_enter Tryz.func18, Tryz.ntmps18
  go_wp2
  clear hmk
  go_loopw [12] (fun i wr => ∃ k : Nat, i = .int .i64 k ∧ Hid (StsRel w n M k wr)) (fun i _ => M.length - (intOf i).toNat)
  case atStart => exact ⟨0, rfl, HS⟩
  case round =>
    obtain ⟨k, rfl, HK⟩ := hrel
    clear HS
    have i0 : (0 : Int) ≤ (k : Int) := by omega
    by_cases hlt : k < M.length
    · have i1 : (k : Int) < (M.length : Int) := by omega
      obtain ⟨-, hB, V, hV⟩ := HK.out
      obtain ⟨u, v, x, he⟩ : ∃ u v : Nat, ∃ x, M[k] = ((u : Int), (v : Int), x) := by
        have h1 := HM.out.2.1 M[k] (List.getElem_mem hlt)
        have h2 := (HM.out.1.2 M[k] (List.getElem_mem hlt)).1
        exact ⟨M[k].1.toNat, M[k].2.1.toNat, M[k].2.2, by rw [Int.toNat_of_nonneg (by omega), Int.toNat_of_nonneg (by omega)]⟩
      have huv : u < v ∧ v < n ∧ 0 < x ∧ x ≤ 2251799813685248 := by
        have h1 := HM.out.2.1 M[k] (List.getElem_mem hlt)
        have h2 := (HM.out.1.2 M[k] (List.getElem_mem hlt)).1
        have h3 := wei_rng HM.out (u : Int) (v : Int)
        have h4 := HM.out.2.2
        have h5 := (mem_wOf HM.out.1.1 (List.getElem_mem hlt)).1
        rw [he] at h1 h2 h5
        simp only at h1 h2 h5
        unfold weiE at h3
        rw [show min (u : Int) (v : Int) = u by omega, show max (u : Int) (v : Int) = v by omega, h5] at h3
        omega
      obtain ⟨b, off, rfl, hbw, hbr, c0, c1, c2⟩ := HR.out.cells hlt hB he
      have HST := Lib.hid (stars_step hlt he (by omega))
      have hr1 := stars_rng HM.out k u
      have hr2 := stars_rng HM.out k v
      have HUV := Lib.hid huv
      have HVB := Lib.hid (fun i (hi : i < n) j (hj : (V i).ownBlock = some j) => ((hV.2.2.1 i hi).1.lt j hj).2)
      have H1 : Hid (PutSt w n wr.heap.size (starsAt M k) V u v x (wr.alloc (.cells #[.int .i64 (u : Int), .int .i64 (v : Int), .int .i64 x] 51))) :=
        Lib.hid ⟨hB.alloc hB.size _, hV.keep ((Below.refl _ _).alloc (Nat.le_refl _) _), ThreeAt.new _ _ _ _ _, hV.1.2, by have := hV.1.2; omega⟩
      clear he hB hV huv
      go_upto_region 5 with fail
      clear c0 c1 c2 hbw hbr
      generalize wr.alloc (.cells #[.int .i64 (u : Int), .int .i64 (v : Int), .int .i64 x] 51) = W1 at *
      generalize wr.heap.size = K at *
      obtain ⟨⟨a0, a1, a2, -, -, -⟩, hKb, hKn⟩ := H1.out.2.2
      have hKl := H1.out.2.2.1.lt
      have q0 : (0 : Int) ≤ (u : Int) := by omega
      have q1 : (u : Int) < (n : Int) := by have := HUV.out; omega
      have q2 : (0 : Int) ≤ (v : Int) := by omega
      have q3 : (v : Int) < (n : Int) := by have := HUV.out; omega
      have q4 : 0 < x := by have := HUV.out; omega
      have q5 : x ≤ 2251799813685248 := by have := HUV.out; omega
      refine wp_region_still_tail 8 (by kernel_rfl) (by kernel_rfl) ?_
      change wpStill _ _ (W1.drewN 1) _ _ _
      change wpStill _ _ _ (fun a' => wpList _ _ _ _ _ (W1.drewN 1)) _ _
      simp only [List.take_succ_cons, List.take_zero, List.drop_succ_cons, List.drop_zero]
      have H2 := Lib.hid (H1.out.drawn 1)
      clear H1
      generalize W1.drewN 1 = W2 at *
      obtain ⟨⟨a0, a1, a2, -, -, -⟩, hKb, hKn⟩ := H2.out.2.2
      have hKl := H2.out.2.2.1.lt
      iterate 8 still_step
      refine wpStill_nil ?_
      go_wp2_with fail
      refine (starPut_any w.heap.size w.heap.size n u (starsAt M k) V v x W2 H2.out.2.1 (by omega) (by omega) (by omega) (by omega)).mono ?_
      rintro e W3 ⟨rfl, hb3, ⟨v3, hv3⟩, hf3⟩
      have H3 := Lib.hid (H2.out.next (k := u) (fun e => by have := HVB.out u (by omega) K e; omega) hb3 hv3 hf3)
      clear hb3 hv3 hf3 H2 a0 a1 a2 hKl
      obtain ⟨⟨a0, a1, a2, -, -, -⟩, -, -⟩ := H3.out.2.2
      have hKl := H3.out.2.2.1.lt
      go_wp2_with fail
      refine wp_region_still_tail 8 (by kernel_rfl) (by kernel_rfl) ?_
      change wpStill _ _ (W3.drewN 1) _ _ _
      change wpStill _ _ _ (fun a' => wpList _ _ _ _ _ (W3.drewN 1)) _ _
      simp only [List.take_succ_cons, List.take_zero, List.drop_succ_cons, List.drop_zero]
      have H4 := Lib.hid (H3.out.drawn 1)
      clear H3 a0 a1 a2 hKl
      generalize W3.drewN 1 = W4 at *
      obtain ⟨⟨a0, a1, a2, -, -, -⟩, -, -⟩ := H4.out.2.2
      have hKl := H4.out.2.2.1.lt
      iterate 8 still_step
      refine wpStill_nil ?_
      go_wp2_with fail
      have HV4 : Hid (updN V u v3 v = V v ∧ updN (starsAt M k) u ((starsAt M k u).1 + x, (starsAt M k u).2 ++ [(v : Int)]) v = starsAt M k v) := Lib.hid ⟨updN_ne _ _ (by have := HUV.out; omega), updN_ne _ _ (by have := HUV.out; omega)⟩
      refine (starPut_any w.heap.size w.heap.size n v _ _ u x W4 H4.out.2.1 (by omega) (by rw [HV4.out.2]; omega) (by rw [HV4.out.2]; omega) (by rw [HV4.out.2]; omega)).mono ?_
      rintro e W5 ⟨rfl, hb5, ⟨v5, hv5⟩, hf5⟩
      have h5 := H4.out.next (k := v) (fun e => by rw [HV4.out.1] at e; have := HVB.out v (by omega) K e; omega) hb5 hv5 hf5
      rw [HV4.out.2, ← HST.out] at h5
      have H5 := Lib.hid h5
      clear hb5 hv5 hf5 H4 h5 a0 a1 a2 hKl
      go_wp2
      go_roundw
      case rel => exact ⟨k + 1, by go_num, Lib.hid ⟨hlt, H5.out.1, _, H5.out.2.1⟩⟩
      case measure => (simp [intOf]; omega)
    · have hk : k = M.length := by have := HK.out.1; omega
      subst hk
      go_wp2
      go_ret
      obtain ⟨-, hB, V, hV⟩ := HK.out
      have e : starsAt M M.length = fun (i : Nat) => (degE M (i : Int), nearE M (i : Int)) := by funext i; unfold starsAt; rw [List.take_length]
      rw [e] at hV
      exact ⟨hB, w.heap.size, rfl, hV.reads⟩
end Go.Proofs.YtceejjgmepaonaaGreatDoor
/- Contracts of around, both Clones, Edges, Degree, Near, Total; of nil too. -/
namespace Go.Proofs.YtceejjgmepaonaaGreatDoor
open Go.RowKit Go.ChangeShapes EdPure NtPure NumPure
def degV (n : Nat) (M : List Ed) (v : Int) : Int := if 0 ≤ v ∧ v < n then degE M v else 0
def nearV (n : Nat) (M : List Ed) (v : Int) : List Int := if 0 ≤ v ∧ v < n then nearE M v else []
/-- Where the ends are there, nothing is told of others. -/
theorem degV_eq {n : Nat} {M : List Ed} (h : GoodN n M) (v : Int) : degV n M v = degE M v := by
  unfold degV
  split
  · rfl
  · next hv =>
    have h1 := h.1.2
    have h2 := h.2.1
    clear h
    symm
    induction M with
    | nil => rfl
    | cons e r ih =>
      rw [deg_cons, ih (fun x hx => h1 x (by simp [hx])) (fun x hx => h2 x (by simp [hx]))]
      have := (h1 e (by simp)).1
      have := h2 e (by simp)
      unfold ofE atB
      simp only [decide_eq_true_eq]
      rw [if_neg (by omega)]
      rfl
theorem nearV_eq {n : Nat} {M : List Ed} (h : GoodN n M) (v : Int) : nearV n M v = nearE M v := by
  unfold nearV
  split
  · rfl
  · next hv =>
    symm
    unfold nearE
    rw [List.map_eq_nil_iff, List.filter_eq_nil_iff]
    intro e he
    have := (h.1.2 e he).1
    have := h.2.1 e he
    unfold atB
    simp only [decide_eq_true_eq]
    omega
def StarOut (d : Int) (l : List Int) (w : World) (e : Ending) (w' : World) : Prop :=
  Below w.heap.size w w' ∧ ∃ q c, e = .returned (.agg #[.int .i64 d, .slice q l.length c]) ∧ ReadsL encZ w'.heap.size w' q l
theorem reads_newsI {α : Type} {enc : α → Value} {N : Nat} {w : World} {ad : Addr} {l : List α} (h : ReadsL enc N w (some ad) l) : ∀ j u, (l.map enc)[j]? = some u → w.cell? (ad.add j) = some u := by
  intro j u hj
  rcases h with h | ⟨b, off, e, -, hc⟩
  · subst h; simp at hj
  · cases e
    obtain ⟨hjl, rfl⟩ := List.getElem?_eq_some_iff.1 hj
    rw [List.getElem_map, addr_add]
    exact hc j (by simpa using hjl)
theorem flat_three {l : List Ed} {j : Nat} {u : Value} (hj : (flatE l)[j]? = some u) : ∃ k r, ∃ hk : k < l.length, (j = k * 3 + r) ∧ ((r = 0 ∧ u = .int .i64 l[k].1) ∨ (r = 1 ∧ u = .int .i64 l[k].2.1) ∨ (r = 2 ∧ u = .int .i64 l[k].2.2)) := by
  have hlt := (List.getElem?_eq_some_iff.1 hj).1
  rw [flatE_len] at hlt
  have hk : j / 3 < l.length := by omega
  obtain ⟨e0, e1, e2⟩ := flatE_at hk
  have hr : j % 3 = 0 ∨ j % 3 = 1 ∨ j % 3 = 2 := by omega
  refine ⟨j / 3, j % 3, hk, by omega, ?_⟩
  rcases hr with h | h | h
  · refine Or.inl ⟨h, ?_⟩
    rw [show j = j / 3 * 3 by omega, e0] at hj
    exact (Option.some.inj hj).symm
  · refine Or.inr (Or.inl ⟨h, ?_⟩)
    rw [show j = j / 3 * 3 + 1 by omega, e1] at hj
    exact (Option.some.inj hj).symm
  · refine Or.inr (Or.inr ⟨h, ?_⟩)
    rw [show j = j / 3 * 3 + 2 by omega, e2] at hj
    exact (Option.some.inj hj).symm
theorem reads_newsE {N : Nat} {w : World} {ad : Addr} {l : List Ed} (h : ReadsE N w (some ad) l) : ∀ j u, (flatE l)[j]? = some u → w.cell? (ad.add j) = some u := by
  intro j u hj
  rcases h with h | ⟨b, off, e, -, hc⟩
  · subst h; simp [flatE] at hj
  · cases e
    obtain ⟨k, r, hk, rfl, hu⟩ := flat_three hj
    obtain ⟨c0, c1, c2⟩ := hc k hk
    rw [addr_add]
    rcases hu with ⟨rfl, rfl⟩ | ⟨rfl, rfl⟩ | ⟨rfl, rfl⟩
    · rw [Nat.add_zero]; exact c0
    · rw [← Nat.add_assoc]; exact c1
    · rw [← Nat.add_assoc]; exact c2
theorem ones_flat {l : List Ed} : ∀ u ∈ flatE l, u.oneCell' = true := by
  intro u hu
  unfold flatE at hu
  obtain ⟨e, -, he⟩ := List.mem_flatMap.1 hu
  simp only [cellE, List.mem_cons, List.not_mem_nil, or_false] at he
  rcases he with rfl | rfl | rfl <;> rfl
def IntsOut (l : List Int) (w : World) (e : Ending) (w' : World) : Prop := Below w.heap.size w w' ∧ ∃ q c, e = .returned (.slice q l.length c) ∧ ReadsL encZ w'.heap.size w' q l
def EdsOut (l : List Ed) (w : World) (e : Ending) (w' : World) : Prop := Below w.heap.size w w' ∧ ∃ q c, e = .returned (.slice q l.length c) ∧ ReadsE w'.heap.size w' q l
theorem nearV_len (n : Nat) (M : List Ed) (v : Int) : (nearV n M v).length ≤ M.length := by
  unfold nearV
  split
  · exact near_len M v
  · exact Nat.zero_le _
theorem sum_all {M : List Ed} (hn : NonNeg M) (hb : allW M ≤ 9223372036854775807) : sumS (wts M) = (allW M, true) := by
  have key : ∀ k, k ≤ M.length → sumS ((wts M).take k) = (allW (M.take k), true) := by
    intro k
    induction k with
    | zero => intro _; rfl
    | succ k ih =>
      intro hk
      have hi := ih (by omega)
      have hk' : k < M.length := by omega
      have h1 : allW (M.take (k + 1)) = allW (M.take k) + M[k].2.2 := by
        rw [take_snoc _ _ hk', allW_append]; simp [allW]
      have h2 := allW_pos (l := M.take k) (fun e he => hn e (List.mem_of_mem_take he))
      have h3 : allW M = allW (M.take (k + 1)) + allW (M.drop (k + 1)) := by rw [← allW_append, List.take_append_drop]
      have h4 := allW_pos (l := M.drop (k + 1)) (fun e he => hn e (List.mem_of_mem_drop he))
      have h5 := hn M[k] (List.getElem_mem hk')
      have hin : In (allW (M.take (k + 1))) := ⟨by omega, by omega⟩
      rw [sumS_take _ _ (by rw [wts_len]; exact hk'), hi, step_ok _ _ rfl, wts_at hk', ← h1]
      rw [cut_in hin, (fits_iff _).2 hin]
  have := key M.length (Nat.le_refl _)
  rwa [List.take_length, ← wts_len M, List.take_length] at this
end Go.Proofs.YtceejjgmepaonaaGreatDoor
