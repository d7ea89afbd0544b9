/- Texts that the laws of this seat stand on, part 31. -/
import Derived.Test.YtceejjgmepaonaaDoorPk17
import Derived.Test.YtceejjgmepaonaaDoorPk18
import Derived.StillTailTactics
import Derived.Shelf.SlSortCmp.NoneTotal
/- Contract of gather: a map of sums by pairs. -/
namespace Go.Proofs.YtceejjgmepaonaaDoor
open Go.RowKit Go.ChangeShapes Go.Maps EdPure NumPure
def GatRel (w : World) (l : List Ed) (k : Nat) (wr : World) : Prop :=
  k ≤ l.length ∧ Below w.heap.size w wr ∧ ∃ M D, gathM (l.take k) = some M ∧ OwnsD wr w.heap.size M.length D ∧ MapIs M D
def GathOut (l : List Ed) (w : World) (e : Ending) (w' : World) : Prop :=
  Below w.heap.size w w' ∧ ((gathM l = none ∧ e = .returned (.tuple #[.map none, .bool false])) ∨
    ∃ M m D, gathM l = some M ∧ e = .returned (.tuple #[.map (some m), .bool true]) ∧ w.heap.size ≤ m ∧ OwnsD w' m M.length D ∧ MapIs M D)
theorem made_map (w : World) : (Instr.makeMap 101 none).run Tryd.prog w = .ok (.map (some w.heap.size)) (w.alloc (.map #[] 0)) := rfl
theorem step_loop {M : List Ed} {u v x : Int} (h : u = v) : stepM (some M) (u, v, x) = some M := by unfold stepM; simp [h]
theorem step_add {M : List Ed} {u v x : Int} (h : u ≠ v) : stepM (some M) (u, v, x) = addL M (normE (u, v, x)) := by unfold stepM; simp [h]
set_option maxRecDepth 100000 in
set_option maxHeartbeats 800000 in
theorem gather_any (a : Option Addr) (c : Nat) (l : List Ed) (hl : l.length ≤ 1048576) (hI : InL l) (w : World) (hR : ReadsE w.heap.size w a l) :
    Calls Tryd.prog 46 #[.slice a l.length c] w fun e w' => GathOut l w e w' := by
  have HR := Lib.hid hR
  have HI := Lib.hid hI
  have hmm := made_map
  have HS : Hid (GatRel w l 0 (w.alloc (.map #[] 0))) := Lib.hid ⟨Nat.zero_le _, (Below.refl _ _).alloc (Nat.le_refl _) _, [], .map [], by rw [List.take_zero]; rfl, World.ownsMap_made _ _ _ _, MapIs.empty⟩
  clear hR hI
  go_enter Tryd.func46, Tryd.ntmps46
  go_wp2
  go_loopw [13] (fun i wr => ∃ k : Nat, i = .int .i64 k ∧ Hid (GatRel w l k wr)) (fun i _ => l.length - (intOf i).toNat)
  case atStart => exact ⟨0, rfl, HS⟩
  case round =>
    obtain ⟨k, rfl, HK⟩ := hrel
    clear HS hmm
    have i0 : (0 : Int) ≤ (k : Int) := by omega
    by_cases hlt : k < l.length
    · have i1 : (k : Int) < (l.length : Int) := by omega
      obtain ⟨-, hB, M, D, hM, hO, hD⟩ := HK.out
      obtain ⟨u, v, x, he⟩ : ∃ u v x, l[k] = (u, v, x) := ⟨_, _, _, rfl⟩
      obtain ⟨b, off, rfl, hbw, hbr, c0, c1, c2⟩ := HR.out.cells hlt hB he
      have hin : InE (u, v, x) := by have := HI.out.at hlt; rwa [he] at this
      have hst : gathM (l.take (k + 1)) = stepM (some M) (u, v, x) := by rw [gath_take hlt, hM, he]
      have hgood := (gath_upto HI.out k (by omega) hM).1
      have hMl := (gath_upto HI.out k (by omega) hM).2
      by_cases huv : u = v
      · subst huv
        have HN : Hid (GatRel w l (k + 1) (wr.alloc (.cells #[.int .i64 u, .int .i64 u, .int .i64 x] 54))) := Lib.hid
          ⟨hlt, hB.alloc hB.size _, M, D, hst.trans (step_loop rfl), map_on hO ((Below.refl _ _).alloc (Nat.le_refl _) _), hD⟩
        clear hB hM hO hD he hin hst hgood
        go_wp2
        exact ⟨⟨k + 1, by go_num, HN⟩, by simp [intOf]; omega⟩
      · have HN := Lib.hid (fun W => ends_any (u, v, x) W)
        obtain ⟨p, q, y, hq⟩ : ∃ p q y, normE (u, v, x) = (p, q, y) := ⟨_, _, _, rfl⟩
        obtain rfl : y = x := by have := norm_w (u, v, x); rw [hq] at this; exact this
        have hnin : InE (p, q, y) := by rw [← hq]; exact norm_in hin
        have hpq : p < q := by have := norm_lt (e := (u, v, y)) huv; rw [hq] at this; exact this
        rw [step_add huv, hq] at hst
        have hee : endsE (u, v, y) = (p, q) := by unfold endsE; rw [hq]
        rw [hee] at HN
        unfold encE encP at HN
        have t : (u == v) = false := by simpa using huv
        have h3 := ThreeAt.new wr (.int .i64 u) (.int .i64 v) (.int .i64 y) 54
        have hO1 := map_on hO ((Below.refl _ _).alloc (Nat.le_refl _) (.cells #[.int .i64 u, .int .i64 v, .int .i64 y] 54))
        have hB1 := hB.alloc hB.size (.cells #[.int .i64 u, .int .i64 v, .int .i64 y] 54)
        have H1 := Lib.hid (And.intro h3 (And.intro hO1 hB1))
        have HQ := Lib.hid (And.intro hst (And.intro hnin (And.intro hpq (And.intro hgood hD))))
        have hin3 : In y := hin.2.2
        clear h3 hO1 hB1 hst hnin hpq hgood hD hin hq hee hO hB hM he huv
        go_wp2_with fail
        have hbw : wr.heap.size < (wr.alloc (.cells #[.int .i64 u, .int .i64 v, .int .i64 y] 54)).heap.size := by simp
        generalize wr.alloc (.cells #[.int .i64 u, .int .i64 v, .int .i64 y] 54) = W1 at *
        refine (HN.out _).mono ?_
        rintro e w1 ⟨rfl, hb⟩
        have h2 := TwoAt.new w1 (.int .i64 p) (.int .i64 q) 23
        have hb2 : Below W1.heap.size W1 (w1.alloc (.cells #[.int .i64 p, .int .i64 q] 23)) := hb.alloc hb.size _
        have h3 := H1.out.1.on hb2 H1.out.1.lt
        have hO2 := map_on H1.out.2.1 hb2
        have hB2 := H1.out.2.2.trans (hb2.mono H1.out.2.2.size)
        go_wp2
        have h2' : TwoAt w1.heap.size ((w1.alloc (.cells #[.int .i64 p, .int .i64 q] 23)).drewN 1) (.int .i64 p) (.int .i64 q) := h2
        have h3' : ThreeAt wr.heap.size ((w1.alloc (.cells #[.int .i64 p, .int .i64 q] 23)).drewN 1) (.int .i64 u) (.int .i64 v) (.int .i64 y) := h3
        have hO3 : OwnsD ((w1.alloc (.cells #[.int .i64 p, .int .i64 q] 23)).drewN 1) w.heap.size M.length D := hO2
        have hB3 : Below w.heap.size w ((w1.alloc (.cells #[.int .i64 p, .int .i64 q] 23)).drewN 1) := below_drewN hB2 1
        clear h2 h3 hO2 hB2 hb hb2 H1 HN
        refine wp_region_still_tail 10 (by kernel_rfl) (by kernel_rfl) ?_
        change wpStill _ _ ((w1.alloc (.cells #[.int .i64 p, .int .i64 q] 23)).drewN 1) _ _ _
        change wpStill _ _ _ (fun a' => wpList _ _ _ _ _ ((w1.alloc (.cells #[.int .i64 p, .int .i64 q] 23)).drewN 1)) _ _
        generalize (w1.alloc (.cells #[.int .i64 p, .int .i64 q] 23)).drewN 1 = W3 at *
        generalize w1.heap.size = P1 at *
        obtain ⟨-, ⟨ip, iq, -⟩, hpq, hgood, hD⟩ := HQ.out
        have hlook := look_any hO3 hD ip iq
        have HO3 := Lib.hid (And.intro hO3 hB3)
        obtain ⟨a0, a1, -, -⟩ := h2'
        obtain ⟨d0, d1, d2, -, -, -⟩ := h3'
        have hw := wOf_in (M := M) (fun x hx => (hgood.2 x hx).2) p q
        have hadd := add_none (e := (p, q, y)) hgood.1 hin3
        have HA := Lib.hid (And.intro hadd (And.intro (And.intro ip iq) (And.intro hgood hD)))
        clear hO3 hB3 hgood hD hadd ip iq
        simp only [List.take_succ_cons, List.take_zero, List.drop_succ_cons, List.drop_zero]
        have hcall := add_any (wOf M p q) y hw hin3 W3
        clear hw
        generalize hsum : wOf M p q = sum at *
        cases hf : fitsB (sum + y)
        · have HX : Hid (gathM l = none) := Lib.hid (gath_stays (k + 1) (HQ.out.1.trans (HA.out.1.2 hf)))
          rw [hf] at hcall
          have HC := Lib.hid hcall
          clear hf hcall hsum
          iterate 5 still_step
          still_call (HC.out.mono fun _ _ ⟨h1, h2⟩ => ⟨h1, h2.symm⟩)
          iterate 4 still_step
          refine wpStill_nil ?_
          go_wp2
          go_ret2
          exact ⟨HO3.out.2, Or.inl ⟨HX.out, rfl⟩⟩
        · have hc : cut (sum + y) = sum + y := cut_in ((fits_iff _).1 hf)
          rw [hf, hc] at hcall
          obtain ⟨M', hM'⟩ : ∃ M', addL M (p, q, y) = some M' := by
            cases hM' : addL M (p, q, y) with
            | none => rw [HA.out.1.1 hM'] at hf; cases hf
            | some M' => exact ⟨M', rfl⟩
          have HP : Hid (MapIs M' (D.put (kP p q) (dI (sum + y))) ∧ gathM (l.take (k + 1)) = some M') := Lib.hid ⟨map_addP HA.out.2.2.2 HA.out.2.2.1.1 HA.out.2.1.1 HA.out.2.1.2 hM' hsum, HQ.out.1.trans hM'⟩
          have hwf : (Lit.int .i64 (sum + y)).wf = true := WalkArith.wf_i64 (by have := (fits_iff _).1 hf; omega)
          have HC := Lib.hid hcall
          have HK2 : Hid (keyOf Tryd.prog 23 (.agg #[.int .i64 p, .int .i64 q]) = some (kP p q)) := Lib.hid (keyP HA.out.2.1.1 HA.out.2.1.2)
          have HO4 : Hid (W3.ownsMap Tryd.prog 23 (plainElem (H := Unit) Tryd.prog 2) w.heap.size M.length D) := Lib.hid HO3.out.1
          have HV : Hid (plainElem (H := Unit) Tryd.prog 2 (.int .i64 (sum + y)) = some (dI (sum + y), [])) := Lib.hid (plainElem_int Tryd.underlying2 hwf)
          clear hf hcall hsum hc hM'
          iterate 5 still_step
          still_call (HC.out.mono fun _ _ ⟨h1, h2⟩ => ⟨h1, h2.symm⟩)
          iterate 4 still_step
          refine wpStill_nil ?_
          go_wp2_with (first
            | (at_mapUpdate; refine wpList_mapUpdate_own _ rfl _ _ _ 101 rfl 23 2 lawP Tryd.underlying101 _ w.heap.size M.length D rfl HO4.out (by unfold maxLen; omega) (.agg #[.int .i64 p, .int .i64 q]) (.int .i64 (sum + y)) (kP p q) rfl rfl HK2.out (dI (sum + y)) [] HV.out ?_; intro w5 hown5 hg5; have HZ := Lib.hid (And.intro hown5 hg5); clear hown5 hg5; go_frame))
          exact ⟨⟨k + 1, by go_num, Lib.hid ⟨hlt, HO3.out.2.grown HZ.out.2 HO3.out.2.size (fun j hj => by cases hj; exact Nat.le_refl _), M', D.put (kP p q) (dI (sum + y)), HP.out.2, by have h := map_tight HZ.out.1; rwa [HP.out.1.2.2.2] at h, HP.out.1⟩⟩, by simp [intOf]; omega⟩
    · have hk : k = l.length := by have := HK.out.1; omega
      subst hk
      obtain ⟨-, hB, M, D, hM, hO, hD⟩ := HK.out
      rw [List.take_length] at hM
      have HZ := Lib.hid (And.intro hB (And.intro hM (And.intro hO hD)))
      clear hB hM hO hD
      go_wp2
      go_ret2
      exact ⟨HZ.out.1, Or.inr ⟨M, w.heap.size, D, HZ.out.2.1, rfl, Nat.le_refl _, HZ.out.2.2.1, HZ.out.2.2.2⟩⟩
end Go.Proofs.YtceejjgmepaonaaDoor
/- What was collected of a map that is gone over in whatever order. -/
namespace Go.Proofs.YtceejjgmepaonaaDoor
open Go.RowKit Go.ChangeShapes Go.Maps EdPure NumPure
theorem filter_out {M : List Ed} {e : Ed} {p : Ed → Bool} (hn : M.Nodup) (he : e ∈ M) (hp : p e = false) : (M.filter fun x => p x || decide (x = e)).Perm (M.filter p ++ [e]) := by
  induction M with
  | nil => simp at he
  | cons y r ih =>
    obtain ⟨n1, n2⟩ := List.nodup_cons.1 hn
    by_cases hy : y = e
    · subst hy
      have : (r.filter fun x => p x || decide (x = y)) = r.filter p := List.filter_congr fun x hx => by
        have : ¬ x = y := fun e2 => n1 (e2 ▸ hx)
        simp [this]
      rw [List.filter_cons_of_pos (by simp), List.filter_cons_of_neg (by simp [hp]), this]
      exact (List.perm_append_singleton y _).symm
    · have he' : e ∈ r := (List.mem_cons.1 he).resolve_left (fun h => hy h.symm)
      have := ih n2 he'
      cases hpy : p y
      · rw [List.filter_cons_of_neg (by simp [hpy, hy]), List.filter_cons_of_neg (by simp [hpy])]
        exact this
      · rw [List.filter_cons_of_pos (by simp [hpy]), List.filter_cons_of_pos hpy]
        exact this.cons y
def Coll (M : List Ed) (left : Lit → Bool) (G : List Ed) : Prop := G.Perm (M.filter fun x => decide (x.2.2 ≠ 0) && !left (kP x.1 x.2.1))
theorem Coll.start {M : List Ed} {D : DataW Unit} (hM : GoodM M) (hD : MapIs M D) : Coll M (has D) [] := by
  unfold Coll
  have : (M.filter fun x => decide (x.2.2 ≠ 0) && !has D (kP x.1 x.2.1)) = [] := by
    rw [List.filter_eq_nil_iff]
    intro x hx
    obtain ⟨-, i1, i2, -⟩ := hM.2 x hx
    rw [hD.2.1 _ _ i1 i2, (mem_wOf hM.1 hx).2]
    simp
  rw [this]
theorem Coll.end {M : List Ed} {left : Lit → Bool} {G : List Ed} (h : Coll M left G) (hl : ∀ k, left k = false) : G.Perm (nonz M) := by
  unfold Coll at h
  unfold nonz
  refine h.trans (List.Perm.of_eq (List.filter_congr fun x _ => ?_))
  rw [hl]; simp
theorem key_is {M : List Ed} (hM : GoodM M) {a b : Int} (ia : In a) (ib : In b) {x : Ed} (hx : x ∈ M) : (kP x.1 x.2.1).sameKey (kP a b) = decide (x = (a, b, wOf M a b)) := by
  obtain ⟨-, i1, i2, -⟩ := hM.2 x hx
  by_cases h : x.1 = a ∧ x.2.1 = b
  · obtain ⟨h1, h2⟩ := h
    subst h1 h2
    rw [WideAt.sameKey_self (kP_key i1 i2), (mem_wOf hM.1 hx).1]
    simp
  · rw [sameKey_ne (kP_ne i1 i2 ia ib h)]
    have : ¬ x = (a, b, wOf M a b) := fun e => h ⟨by rw [e], by rw [e]⟩
    simp [this]
theorem nodup_good {M : List Ed} (hM : GoodM M) : M.Nodup := hM.1.imp (fun {a b} hab e => by subst e; unfold lt2 at hab; omega)
theorem Coll.zero {M : List Ed} {left : Lit → Bool} {G : List Ed} (h : Coll M left G) (hM : GoodM M) {a b : Int} (ia : In a) (ib : In b) (hc : wOf M a b = 0) : Coll M (fun z => left z && !z.sameKey (kP a b)) G := by
  unfold Coll at *
  refine h.trans (List.Perm.of_eq (List.filter_congr fun x hx => ?_))
  simp only
  rw [key_is hM ia ib hx]
  by_cases e : x = (a, b, wOf M a b)
  · have : x.2.2 = 0 := by rw [e]; exact hc
    simp [this]
  · simp [e]
theorem Coll.step {M : List Ed} {left : Lit → Bool} {G : List Ed} (h : Coll M left G) (hM : GoodM M) {a b : Int} (ia : In a) (ib : In b) (hh : hasM M a b = true) (hl : left (kP a b) = true) (hc : wOf M a b ≠ 0) :
    Coll M (fun z => left z && !z.sameKey (kP a b)) (G ++ [(a, b, wOf M a b)]) := by
  unfold Coll at *
  have hm := wOf_mem hh
  have := filter_out (p := fun x => decide (x.2.2 ≠ 0) && !left (kP x.1 x.2.1)) (nodup_good hM) hm (by simp [hl])
  refine ((h.append_right _).trans this.symm).trans (List.Perm.of_eq (List.filter_congr fun x hx => ?_))
  simp only
  rw [key_is hM ia ib hx]
  by_cases e : x = (a, b, wOf M a b)
  · simp [e, hc, hl]
  · simp [e]
end Go.Proofs.YtceejjgmepaonaaDoor
/- Edges put in order by the library's SortFunc and Cmp. -/
namespace Go.Proofs.YtceejjgmepaonaaDoor
open Go.RowKit Go.ChangeShapes EdPure
open Go.Sort hiding Below
theorem ltOf_cmp (x y : Ed) : ltOf cmpE x y = decide (cmpE x y < 0) := rfl
theorem ltOf_yes {x y : Ed} : ltOf cmpE x y = true ↔ ltE x y := by rw [ltOf_cmp, decide_eq_true_eq]; exact cmp_lt
theorem ltOf_no {x y : Ed} : ltOf cmpE x y = false ↔ ¬ ltE x y := by rw [← ltOf_yes]; simp
theorem swoE : SWO (ltOf cmpE) where
  irrefl x := ltOf_no.2 ltE_irrefl
  trans x y z h1 h2 := ltOf_yes.2 (ltE_trans (ltOf_yes.1 h1) (ltOf_yes.1 h2))
  ntrans x y z h1 h2 := by
    rw [ltOf_no] at *
    unfold ltE at *
    omega
theorem totE (x y : Ed) (h1 : ltOf cmpE x y = false) (h2 : ltOf cmpE y x = false) : x = y := by
  rw [ltOf_no] at h1 h2
  rcases cmp_cases x y with ⟨-, h⟩ | ⟨-, h⟩ | ⟨-, h⟩
  · exact (h1 h).elim
  · exact (h2 h).elim
  · exact h
def sortE (G : List Ed) : List Ed := G.mergeSort fun x y => !ltOf cmpE y x
theorem sortE_unique {G M : List Ed} (hp : G.Perm M) (hs : M.Pairwise ltE) : sortE G = M := by
  refine List.Perm.eq_of_pairwise (le := fun x y => ltOf cmpE y x = false) (fun a b _ _ h1 h2 => totE a b h2 h1) ?_ (hs.imp fun h => ltOf_no.2 fun h2 => ltE_asymm h h2) ((List.mergeSort_perm _ _).trans hp)
  have := List.pairwise_mergeSort (le := fun x y : Ed => !ltOf cmpE y x) (fun a b c h1 h2 => by
    simp only [Bool.not_eq_true'] at *
    rw [ltOf_no] at *
    unfold ltE at *
    omega) (fun a b => by
    cases h1 : ltOf cmpE b a
    · rfl
    · have : ltOf cmpE a b = false := ltOf_no.2 fun h2 => ltE_asymm h2 (ltOf_yes.1 h1)
      rw [this]; rfl) G
  exact this.imp fun h => by simpa using h
theorem lt2_ltE {a b : Ed} (h : lt2 a b) : ltE a b := by unfold lt2 at h; unfold ltE; omega
/-- What the sort leaves alone. -/
theorem sortWorld_below {α : Type} [Inhabited α] (enc : α → Value) (w : World) (blk off n : Nat) (d : Array α) (os : Array Obj) (hb : blk < w.heap.size) : Below blk w (sortWorld enc w blk off n d os) := by
  refine ⟨rfl, rfl, rfl, by simp [sortWorld], fun k hk => ?_⟩
  unfold sortWorld
  rw [heap_grow_old _ _ (by simp; omega)]
  simp only [putRow, mapBlock, Array.getElem?_modify, heap_ahead]
  rw [if_neg (by omega)]
theorem get_bang {α : Type} [Inhabited α] {l : List α} {i : Nat} (hi : i < l.length) : l.toArray[i]! = l[i] := by
  rw [List.getElem!_toArray, List.getElem!_eq_getElem?_getD, List.getElem?_eq_getElem hi]; rfl
theorem bang_of {l : List Value} {t : Nat} {v : Value} (h : l[t]? = some v) : l.toArray[t]! = v := by
  rw [List.getElem!_toArray, List.getElem!_eq_getElem?_getD, h]; rfl
theorem flatK_flatE (G : List Ed) : flatK cellE 3 G.toArray = (flatE G).toArray := by
  refine ext_get! (by rw [size_flatK, List.size_toArray, List.size_toArray, flatE_len]) fun t ht => ?_
  rw [size_flatK, List.size_toArray] at ht
  have hn : t / 3 < G.length := by omega
  rw [get_flatK cellE 3 G.toArray t (by rw [List.size_toArray]; exact ht), get_bang hn]
  obtain ⟨e0, e1, e2⟩ := flatE_at hn
  have ht3 : t = t / 3 * 3 + t % 3 := by omega
  have hr : t % 3 = 0 ∨ t % 3 = 1 ∨ t % 3 = 2 := by omega
  generalize t / 3 = n at *
  generalize t % 3 = r at *
  subst ht3
  rcases hr with rfl | rfl | rfl
  · rw [Nat.add_zero, bang_of e0]; rfl
  · rw [bang_of e1]; rfl
  · rw [bang_of e2]; rfl
theorem sortE_any (blk cap : Nat) (G : List Ed) (hl : G.length ≤ 1048576) (w : World) (hblk : blk < w.heap.size) (hrow : RowIs blk w (flatE G)) :
    Calls Tryd.prog 47 #[.slice (some ⟨blk, 0, none⟩) G.length cap, .func (.func 48) #[] #[]] w fun e w' =>
      e = .returned (.tuple #[]) ∧ Below blk w w' ∧ RowIs blk w' (flatE (sortE G)) ∧ w.heap.size ≤ w'.heap.size := by
  have hH : HoldsK cellE 3 w blk 0 G.toArray := by
    unfold HoldsK
    rw [flatK_flatE]
    intro j hj
    have hj' : j < (flatE G).length := by simpa using hj
    rw [get_bang hj', Nat.zero_add]
    exact hrow j hj'
  have hcmp : CmpLays Tryd.prog 48 #[] cellE 3 cmpE blk 0 G.toArray.size w := by
    intro m os dk _ x y
    exact cmp_any x y _
  have hS := AnyQ.slices_SortFunc_total Tryd.laysSortF 3 (fun w => Tryd.isAgg54 w) (fun w => Tryd.sizeOf54 w) cellE (fun _ => rfl) (fun e => ones_edge) cmpE swoE 48 #[] blk 0 cap G.toArray w
    (enters_of Tryd.func48 (by kernel_rfl) rfl) hcmp hH hblk (by simp; omega) totE
  refine Calls.mono hS ?_
  rintro e w' ⟨rfl, n, os, rfl⟩
  have hb := sortWorld_below id w blk 0 n (flatK cellE 3 (sortE G).toArray) os hblk
  refine ⟨rfl, hb, fun i hi => ?_, hb.size⟩
  have hlen : (flatE (sortE G)).length = (flatE G).length := by rw [flatE_len, flatE_len]; unfold sortE; rw [List.length_mergeSort]
  have hh := holds_sortWorld id w blk 0 n (flatK cellE 3 G.toArray) (flatK cellE 3 (sortE G).toArray) os hblk hH (by rw [flatK_flatE, flatK_flatE]; simp [hlen]) i (by rw [flatK_flatE]; simpa using hi)
  rw [flatK_flatE, get_bang hi, Nat.zero_add] at hh
  have e : sortWorldK cellE 3 w blk 0 n (sortE G).toArray os = sortWorld id w blk 0 n (flatE (sortE G)).toArray os := by
    unfold sortWorldK sortWorld putRowK; rw [flatK_flatE]
  show (sortWorldK cellE 3 w blk 0 n (sortE G).toArray os).cell? _ = _ ∧ (sortWorldK cellE 3 w blk 0 n (sortE G).toArray os).frozen? _ = _
  rw [e]
  exact hh
theorem sort_none (a : Option Addr) (cap : Nat) (w : World) :
    Calls Tryd.prog 47 #[.slice a 0 cap, .func (.func 48) #[] #[]] w fun e w' => e = .returned (.tuple #[]) ∧ w' = w := AnyF.slices_SortFunc_none Tryd.laysSortF a cap _ w
end Go.Proofs.YtceejjgmepaonaaDoor
