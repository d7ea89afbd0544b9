/- Texts that the laws of this seat stand on, part 31. -/
import Derived.Test.YtceejjgmepaonaaGreatDoorPk17
import Derived.Test.YtceejjgmepaonaaGreatDoorPk18
import Derived.Shelf.SlSortCmp.NoneTotal
import Derived.Test.YtceejjgmepaonaaGreatDoorPk30
import Derived.Sort.OwnSorted
import Derived.Test.YtceejjgmepaonaaGreatDoorPk20
import Derived.Test.YtceejjgmepaonaaGreatDoorPk19
/- What was collected of a map that is gone over in whatever order. -/
namespace Go.Proofs.YtceejjgmepaonaaGreatDoor
open Go.RowKit Go.ChangeShapes Go.Maps EdPure NumPure
theorem filter_out {M : List Ed} {e : Ed} {p : Ed → Bool} (hn : M.Nodup) (he : e ∈ M) (hp : p e = false) : (M.filter fun x => p x || decide (x = e)).Perm (M.filter p ++ [e]) := by
  induction M with
  | nil => simp at he
  | cons y r ih =>
    obtain ⟨n1, n2⟩ := List.nodup_cons.1 hn
    by_cases hy : y = e
    · subst hy
      have : (r.filter fun x => p x || decide (x = y)) = r.filter p := List.filter_congr fun x hx => by
        have : ¬ x = y := fun e2 => n1 (e2 ▸ hx)
        simp [this]
      rw [List.filter_cons_of_pos (by simp), List.filter_cons_of_neg (by simp [hp]), this]
      exact (List.perm_append_singleton y _).symm
    · have he' : e ∈ r := (List.mem_cons.1 he).resolve_left (fun h => hy h.symm)
      have := ih n2 he'
      cases hpy : p y
      · rw [List.filter_cons_of_neg (by simp [hpy, hy]), List.filter_cons_of_neg (by simp [hpy])]
        exact this
      · rw [List.filter_cons_of_pos (by simp [hpy]), List.filter_cons_of_pos hpy]
        exact this.cons y
def Coll (M : List Ed) (left : Lit → Bool) (G : List Ed) : Prop := G.Perm (M.filter fun x => decide (x.2.2 ≠ 0) && !left (kP x.1 x.2.1))
theorem Coll.start {M : List Ed} {D : DataW Unit} (hM : GoodM M) (hD : MapIs M D) : Coll M (has D) [] := by
  unfold Coll
  have : (M.filter fun x => decide (x.2.2 ≠ 0) && !has D (kP x.1 x.2.1)) = [] := by
    rw [List.filter_eq_nil_iff]
    intro x hx
    obtain ⟨-, i1, i2, -⟩ := hM.2 x hx
    rw [hD.2.1 _ _ i1 i2, (mem_wOf hM.1 hx).2]
    simp
  rw [this]
theorem Coll.end {M : List Ed} {left : Lit → Bool} {G : List Ed} (h : Coll M left G) (hl : ∀ k, left k = false) : G.Perm (nonz M) := by
  unfold Coll at h
  unfold nonz
  refine h.trans (List.Perm.of_eq (List.filter_congr fun x _ => ?_))
  rw [hl]; simp
theorem key_is {M : List Ed} (hM : GoodM M) {a b : Int} (ia : In a) (ib : In b) {x : Ed} (hx : x ∈ M) : (kP x.1 x.2.1).sameKey (kP a b) = decide (x = (a, b, wOf M a b)) := by
  obtain ⟨-, i1, i2, -⟩ := hM.2 x hx
  by_cases h : x.1 = a ∧ x.2.1 = b
  · obtain ⟨h1, h2⟩ := h
    subst h1 h2
    rw [WideAt.sameKey_self (kP_key i1 i2), (mem_wOf hM.1 hx).1]
    simp
  · rw [sameKey_ne (kP_ne i1 i2 ia ib h)]
    have : ¬ x = (a, b, wOf M a b) := fun e => h ⟨by rw [e], by rw [e]⟩
    simp [this]
theorem nodup_good {M : List Ed} (hM : GoodM M) : M.Nodup := hM.1.imp (fun {a b} hab e => by subst e; unfold lt2 at hab; omega)
theorem Coll.zero {M : List Ed} {left : Lit → Bool} {G : List Ed} (h : Coll M left G) (hM : GoodM M) {a b : Int} (ia : In a) (ib : In b) (hc : wOf M a b = 0) : Coll M (fun z => left z && !z.sameKey (kP a b)) G := by
  unfold Coll at *
  refine h.trans (List.Perm.of_eq (List.filter_congr fun x hx => ?_))
  simp only
  rw [key_is hM ia ib hx]
  by_cases e : x = (a, b, wOf M a b)
  · have : x.2.2 = 0 := by rw [e]; exact hc
    simp [this]
  · simp [e]
theorem Coll.step {M : List Ed} {left : Lit → Bool} {G : List Ed} (h : Coll M left G) (hM : GoodM M) {a b : Int} (ia : In a) (ib : In b) (hh : hasM M a b = true) (hl : left (kP a b) = true) (hc : wOf M a b ≠ 0) :
    Coll M (fun z => left z && !z.sameKey (kP a b)) (G ++ [(a, b, wOf M a b)]) := by
  unfold Coll at *
  have hm := wOf_mem hh
  have := filter_out (p := fun x => decide (x.2.2 ≠ 0) && !left (kP x.1 x.2.1)) (nodup_good hM) hm (by simp [hl])
  refine ((h.append_right _).trans this.symm).trans (List.Perm.of_eq (List.filter_congr fun x hx => ?_))
  simp only
  rw [key_is hM ia ib hx]
  by_cases e : x = (a, b, wOf M a b)
  · simp [e, hc, hl]
  · simp [e]
end Go.Proofs.YtceejjgmepaonaaGreatDoor
/- Edges put in order by the library's SortFunc and Cmp. -/
namespace Go.Proofs.YtceejjgmepaonaaGreatDoor
open Go.RowKit Go.ChangeShapes EdPure
open Go.Sort hiding Below
theorem ltOf_cmp (x y : Ed) : ltOf cmpE x y = decide (cmpE x y < 0) := rfl
theorem ltOf_yes {x y : Ed} : ltOf cmpE x y = true ↔ ltE x y := by rw [ltOf_cmp, decide_eq_true_eq]; exact cmp_lt
theorem ltOf_no {x y : Ed} : ltOf cmpE x y = false ↔ ¬ ltE x y := by rw [← ltOf_yes]; simp
theorem swoE : SWO (ltOf cmpE) where
  irrefl x := ltOf_no.2 ltE_irrefl
  trans x y z h1 h2 := ltOf_yes.2 (ltE_trans (ltOf_yes.1 h1) (ltOf_yes.1 h2))
  ntrans x y z h1 h2 := by
    rw [ltOf_no] at *
    unfold ltE at *
    omega
theorem totE (x y : Ed) (h1 : ltOf cmpE x y = false) (h2 : ltOf cmpE y x = false) : x = y := by
  rw [ltOf_no] at h1 h2
  rcases cmp_cases x y with ⟨-, h⟩ | ⟨-, h⟩ | ⟨-, h⟩
  · exact (h1 h).elim
  · exact (h2 h).elim
  · exact h
def sortE (G : List Ed) : List Ed := G.mergeSort fun x y => !ltOf cmpE y x
theorem sortE_unique {G M : List Ed} (hp : G.Perm M) (hs : M.Pairwise ltE) : sortE G = M := by
  refine List.Perm.eq_of_pairwise (le := fun x y => ltOf cmpE y x = false) (fun a b _ _ h1 h2 => totE a b h2 h1) ?_ (hs.imp fun h => ltOf_no.2 fun h2 => ltE_asymm h h2) ((List.mergeSort_perm _ _).trans hp)
  have := List.pairwise_mergeSort (le := fun x y : Ed => !ltOf cmpE y x) (fun a b c h1 h2 => by
    simp only [Bool.not_eq_true'] at *
    rw [ltOf_no] at *
    unfold ltE at *
    omega) (fun a b => by
    cases h1 : ltOf cmpE b a
    · rfl
    · have : ltOf cmpE a b = false := ltOf_no.2 fun h2 => ltE_asymm h2 (ltOf_yes.1 h1)
      rw [this]; rfl) G
  exact this.imp fun h => by simpa using h
theorem lt2_ltE {a b : Ed} (h : lt2 a b) : ltE a b := by unfold lt2 at h; unfold ltE; omega
/-- What the sort leaves alone. -/
theorem sortWorld_below {α : Type} [Inhabited α] (enc : α → Value) (w : World) (blk off n : Nat) (d : Array α) (os : Array Obj) (hb : blk < w.heap.size) : Below blk w (sortWorld enc w blk off n d os) := by
  refine ⟨rfl, rfl, rfl, by simp [sortWorld], fun k hk => ?_⟩
  unfold sortWorld
  rw [heap_grow_old _ _ (by simp; omega)]
  simp only [putRow, mapBlock, Array.getElem?_modify, heap_ahead]
  rw [if_neg (by omega)]
theorem get_bang {α : Type} [Inhabited α] {l : List α} {i : Nat} (hi : i < l.length) : l.toArray[i]! = l[i] := by
  rw [List.getElem!_toArray, List.getElem!_eq_getElem?_getD, List.getElem?_eq_getElem hi]; rfl
theorem bang_of {l : List Value} {t : Nat} {v : Value} (h : l[t]? = some v) : l.toArray[t]! = v := by
  rw [List.getElem!_toArray, List.getElem!_eq_getElem?_getD, h]; rfl
theorem flatK_flatE (G : List Ed) : flatK cellE 3 G.toArray = (flatE G).toArray := by
  refine ext_get! (by rw [size_flatK, List.size_toArray, List.size_toArray, flatE_len]) fun t ht => ?_
  rw [size_flatK, List.size_toArray] at ht
  have hn : t / 3 < G.length := by omega
  rw [get_flatK cellE 3 G.toArray t (by rw [List.size_toArray]; exact ht), get_bang hn]
  obtain ⟨e0, e1, e2⟩ := flatE_at hn
  have ht3 : t = t / 3 * 3 + t % 3 := by omega
  have hr : t % 3 = 0 ∨ t % 3 = 1 ∨ t % 3 = 2 := by omega
  generalize t / 3 = n at *
  generalize t % 3 = r at *
  subst ht3
  rcases hr with rfl | rfl | rfl
  · rw [Nat.add_zero, bang_of e0]; rfl
  · rw [bang_of e1]; rfl
  · rw [bang_of e2]; rfl
theorem sortE_any (blk cap : Nat) (G : List Ed) (hl : G.length ≤ 1048576) (w : World) (hblk : blk < w.heap.size) (hrow : RowIs blk w (flatE G)) :
    Calls Tryz.prog 40 #[.slice (some ⟨blk, 0, none⟩) G.length cap, .func (.func 41) #[] #[]] w fun e w' =>
      e = .returned (.tuple #[]) ∧ Below blk w w' ∧ RowIs blk w' (flatE (sortE G)) ∧ w.heap.size ≤ w'.heap.size := by
  have hH : HoldsK cellE 3 w blk 0 G.toArray := by
    unfold HoldsK
    rw [flatK_flatE]
    intro j hj
    have hj' : j < (flatE G).length := by simpa using hj
    rw [get_bang hj', Nat.zero_add]
    exact hrow j hj'
  have hcmp : CmpLays Tryz.prog 41 #[] cellE 3 cmpE blk 0 G.toArray.size w := by
    intro m os dk _ x y
    exact cmp_any x y _
  have hS := AnyQ.slices_SortFunc_total Tryz.laysSortF 3 (fun w => Tryz.isAgg51 w) (fun w => Tryz.sizeOf51 w) cellE (fun _ => rfl) (fun e => ones_edge) cmpE swoE 41 #[] blk 0 cap G.toArray w
    (enters_of Tryz.func41 (by kernel_rfl) rfl) hcmp hH hblk (by simp; omega) totE
  refine Calls.mono hS ?_
  rintro e w' ⟨rfl, n, os, rfl⟩
  have hb := sortWorld_below id w blk 0 n (flatK cellE 3 (sortE G).toArray) os hblk
  refine ⟨rfl, hb, fun i hi => ?_, hb.size⟩
  have hlen : (flatE (sortE G)).length = (flatE G).length := by rw [flatE_len, flatE_len]; unfold sortE; rw [List.length_mergeSort]
  have hh := holds_sortWorld id w blk 0 n (flatK cellE 3 G.toArray) (flatK cellE 3 (sortE G).toArray) os hblk hH (by rw [flatK_flatE, flatK_flatE]; simp [hlen]) i (by rw [flatK_flatE]; simpa using hi)
  rw [flatK_flatE, get_bang hi, Nat.zero_add] at hh
  have e : sortWorldK cellE 3 w blk 0 n (sortE G).toArray os = sortWorld id w blk 0 n (flatE (sortE G)).toArray os := by
    unfold sortWorldK sortWorld putRowK; rw [flatK_flatE]
  show (sortWorldK cellE 3 w blk 0 n (sortE G).toArray os).cell? _ = _ ∧ (sortWorldK cellE 3 w blk 0 n (sortE G).toArray os).frozen? _ = _
  rw [e]
  exact hh
theorem sort_none (a : Option Addr) (cap : Nat) (w : World) :
    Calls Tryz.prog 40 #[.slice a 0 cap, .func (.func 41) #[] #[]] w fun e w' => e = .returned (.tuple #[]) ∧ w' = w := AnyF.slices_SortFunc_none Tryz.laysSortF a cap _ w
end Go.Proofs.YtceejjgmepaonaaGreatDoor
/- Contract of Merge. -/
namespace Go.Proofs.YtceejjgmepaonaaGreatDoor
open Go.RowKit Go.ChangeShapes Go.Maps EdPure NumPure
/-- What Merge answers. -/
def MergeOut (r : Option (List Ed)) (w : World) (e : Ending) (w' : World) : Prop :=
  Below w.heap.size w w' ∧ ((r = none ∧ e = .returned (.tuple #[.slice none 0 0, .bool false])) ∨
    ∃ A q cap, r = some A ∧ e = .returned (.tuple #[.slice q A.length cap, .bool true]) ∧ ReadsE w'.heap.size w' q A)
theorem rows_edge {g : Nat} {w : World} {l : List Ed} (h : RowIs g w (flatE l)) : ReadsE w.heap.size w (some ⟨g, 0, none⟩) l := by
  by_cases h0 : l = []
  · exact Or.inl h0
  have hl : 0 < l.length := List.length_pos_iff.2 h0
  refine Or.inr ⟨g, 0, rfl, h.lt (by rw [flatE_len]; omega), fun i hi => ?_⟩
  obtain ⟨e0, e1, e2⟩ := flatE_at hi
  have at' : ∀ {j : Nat} {v : Value}, (flatE l)[j]? = some v → w.cell? ⟨g, j, none⟩ = some v := fun {j v} hj => by
    obtain ⟨hlt, hv⟩ := List.getElem?_eq_some_iff.1 hj
    rw [← hv]; exact (h j hlt).1
  simp only [Nat.zero_add]
  exact ⟨at' e0, at' e1, at' e2⟩
theorem owns_rowE {w : World} {B g n cap : Nat} {T : TypeId} {vs : List Value} (h : w.ownsRow B T 3 (.slice (some ⟨g, 0, none⟩) n cap) n vs) : RowIs g w vs := by
  have hc := h.cells (g := g) rfl
  obtain ⟨-, ⟨h1, -⟩ | ⟨g', cap', cur, h1, -, h3, -, -, -, -⟩⟩ := h
  · cases h1
  · cases h1
    intro i hi
    refine ⟨?_, ?_⟩
    · have := hc i vs[i] (List.getElem?_eq_getElem hi)
      rwa [addr_add, Nat.zero_add] at this
    · unfold World.frozen?
      simp only [h3]
      simp
/-- While the map is gone over. -/
def MrgRel (w1 : World) (m r : Nat) (D : DataW Unit) (M : List Ed) (left : Lit → Bool) (cnt : Nat) (G : List Ed) (v : Value) (wr : World) : Prop :=
  wr.ranges Tryz.prog 92 (plainElem (H := Unit) Tryz.prog 2) m r M.length D left cnt ∧ GrowE w1 G v wr ∧ Coll M left G
theorem MrgRel.size {w1 : World} {m r : Nat} {D : DataW Unit} {M : List Ed} {left : Lit → Bool} {cnt : Nat} {G : List Ed} {v : Value} {wr : World} (h : MrgRel w1 m r D M left cnt G v wr) : G.length ≤ M.length := by
  rw [List.Perm.length_eq h.2.2]; exact List.length_filter_le _ _
set_option maxRecDepth 100000 in
set_option maxHeartbeats 800000 in
theorem merge_any (a : Option Addr) (c : Nat) (l : List Ed) (hl : l.length ≤ 1048576) (hI : InL l) (w : World) (hR : ReadsE w.heap.size w a l) :
    Calls Tryz.prog 17 #[.slice a l.length c] w fun e w' => MergeOut (mergeE l) w e w' := by
  have HG := Lib.hid (gather_any a c l hl hI w hR)
  have HI := Lib.hid hI
  clear hR hI
  go_enter Tryz.func17, Tryz.ntmps17
  go_wp2_with fail
  refine HG.out.mono ?_
  rintro e w1 ⟨hb1, ⟨hn, rfl⟩ | ⟨M, m, D, hs, rfl, hm, hO, hD⟩⟩
  · have HX : Hid (mergeE l = none) := Lib.hid (by unfold mergeE; rw [hn]; rfl)
    have HB := Lib.hid hb1
    clear hn hb1
    go_wp2
    go_ret2
    exact ⟨HB.out, Or.inl ⟨HX.out, rfl⟩⟩
  obtain ⟨hgood, hMl⟩ := gath_good HI.out hs
  have hlen := fun ty => hO.len Tryz.underlying89 ty
  rw [hD.2.2.2] at hlen
  obtain ⟨cur, hcur, hmk⟩ := make_edges M.length (by omega) w1
  have hm1 := hO.lt
  have HX : Hid (mergeE l = some (nonz M)) := Lib.hid (by unfold mergeE; rw [hs]; rfl)
  have HG0 := Lib.hid (GrowE.made w1 w1 cur M.length (Below.refl _ _) (by omega) hcur)
  have HO2 : Hid (OwnsD (w1.alloc (.cells cur 51)) m M.length D) := Lib.hid (map_on hO ((Below.refl _ _).alloc (Nat.le_refl _) _))
  have HD := Lib.hid (And.intro hD (And.intro hgood hb1))
  have hM2 : M.length ≤ 1048576 := by omega
  clear hs hO hD hgood hb1 hcur
  have HO3 : Hid ((w1.alloc (.cells cur 51)).ownsMap Tryz.prog 92 (plainElem (H := Unit) Tryz.prog 2) m M.length D) := HO2
  have e1 : (w1.alloc (.cells cur 51)).heap.size = w1.heap.size + 1 := by simp
  go_wp2_with (first
    | (at_range; refine wpList_range_own _ rfl _ 89 rfl 92 2 lawP Tryz.underlying89 _ m M.length D rfl HO3.out ?_; intro w3 hrg hg hs3; rw [e1] at hrg; have HRG := Lib.hid (And.intro hrg hg); clear hrg hg hs3))
  go_frame
  rw [e1]
  clear e1 hlen hmk
  generalize hr : w1.heap.size + 1 = r at *
  have Hr := Lib.hid hr
  clear hr
  have HS : Hid (MrgRel w1 m r D M (Maps.has D) (Maps.size D) [] (.slice (some ⟨w1.heap.size, 0, none⟩) 0 M.length) w3) := Lib.hid
    ⟨HRG.out.1, HG0.out.on ⟨HRG.out.2.os, HRG.out.2.tape, HRG.out.2.output, HRG.out.2.size, fun j hj => HRG.out.2.block j hj (by simp)⟩, Coll.start HD.out.2.1 HD.out.1⟩
  clear HRG HO2 HO3 HG0
  go_loopw [6] (fun s wr => ∃ left cnt G v, v = s ∧ Hid (MrgRel w1 m r D M left cnt G v wr)) (fun _ wr => wr.rangeLeft m r)
  case atStart => exact ⟨_, _, [], _, rfl, HS⟩
  case round =>
    obtain ⟨left, cnt, G, v, rfl, HK⟩ := hrel
    clear HS
    go_wp2_with (first
      | (at_next; refine wpList_next_ranges _ rfl _ rfl 92 lawP (plainElem (H := Unit) Tryz.prog 2) encP (Value.int .i64) (fun key kl hk => by obtain ⟨x, y, hx, _⟩ := keyP_inv hk; exact ⟨(x, y), hx⟩) (fun v y hv => by obtain ⟨c, rfl, _⟩ := plainElem_int_inv Tryz.underlying2 hv; exact ⟨c, rfl⟩) m r M.length D left cnt rfl HK.out.1 ?_ ?_))
    · intro _ hl0
      have hp := HK.out.2.2.end hl0
      have hsz := HK.out.size
      have HU := Lib.hid (sortE_unique hp ((nonz_good HD.out.2.1).1.imp fun h => lt2_ltE h))
      have hown := HK.out.2.1.2
      have HB : Hid (Below w.heap.size w wr) := Lib.hid (HD.out.2.2.trans (HK.out.2.1.1.mono HD.out.2.2.size))
      have hbase : w.heap.size ≤ w1.heap.size := HD.out.2.2.size
      rcases hown.2 with ⟨rfl, h0⟩ | ⟨g, cap, cur2, rfl, hg, hhb, -⟩
      · have hG : G = [] := List.length_eq_zero_iff.1 h0
        subst hG
        have HE : Hid (nonz M = []) := Lib.hid (by rw [← HU.out]; simp [sortE])
        clear hown hp
        go_wp2_with (first | (go_at_call 40; refine (sort_none _ _ _).mono ?_; rintro e w5 ⟨rfl, rfl⟩))
        go_ret2
        exact ⟨HB.out, Or.inr ⟨[], none, 0, by rw [HX.out, HE.out], rfl, Or.inl rfl⟩⟩
      · have hrow := owns_rowE hown
        have hgl : g < wr.heap.size := (hown.lt g rfl).2
        have HS2 := Lib.hid (sortE_any g cap G (by omega) wr hgl hrow)
        rw [HU.out] at HS2
        have HL : Hid (G.length = (nonz M).length) := Lib.hid hp.length_eq
        clear hown hp hrow
        go_wp2_with (first | (go_at_call 40; refine HS2.out.mono ?_; rintro e w5 ⟨rfl, hb5, hr5, hz5⟩; have H5 := Lib.hid (And.intro hb5 (And.intro hr5 hz5)); clear hb5 hr5 hz5))
        go_ret2
        refine ⟨HB.out.trans (H5.out.1.mono (Nat.le_trans hbase hg)), Or.inr ⟨nonz M, some ⟨g, 0, none⟩, cap, HX.out, by rw [HL.out]; rfl, rows_edge H5.out.2.1⟩⟩
    · intro x1 x2 c2 kl yd yp w4 cnt2 hkey hlk hv hat hrg hlt hg hs4 hen
      obtain ⟨p, q, hpq, ip, iq, rfl⟩ := keyP_inv hkey
      obtain ⟨rfl, rfl⟩ : x1 = p ∧ x2 = q := by
        unfold encP at hpq
        simp only [Value.agg.injEq, Array.mk.injEq, List.cons.injEq, Value.int.injEq, true_and, and_true] at hpq
        exact hpq
      obtain ⟨c3, hc3, hy, -⟩ := plainElem_int_inv Tryz.underlying2 hv
      obtain rfl : c2 = c3 := by injection hc3
      have hyd : yd = dI c2 := congrArg Prod.fst hy
      have hwc : wOf M x1 x2 = c2 := by
        have h1 := (hat (dI 0)).symm.trans (HD.out.1.2.2.1 x1 x2 ip iq)
        simp only [hyd] at h1
        unfold dI at h1
        injection h1 with h1
        injection h1 with _ h1
        exact h1.symm
      have hhas : hasM M x1 x2 = true := by rw [← HD.out.1.2.1 x1 x2 ip iq]; exact has_true_of_atKey hat
      simp only [encP] at hen ⊢
      have hown4 := HK.out.2.1.2.kept hg (Or.inr (row_ne_iter HK.out.2.1.2 HK.out.1).symm)
      have hbel4 : Below w1.heap.size w1 w4 := HK.out.2.1.1.grown hg HK.out.2.1.1.size (fun j hj => by cases hj; have := Hr.out; omega)
      have hsz := HK.out.size
      by_cases h0 : c2 = 0
      · have t : (c2 != 0) = false := by simp [h0]
        have HN : Hid (MrgRel w1 m r D M (fun z => left z && !z.sameKey (kP x1 x2)) cnt2 G v w4) := Lib.hid ⟨hrg, ⟨hbel4, hown4⟩, HK.out.2.2.zero HD.out.2.1 ip iq (hwc.trans h0)⟩
        have HM : Hid (w4.rangeLeft m r < wr.rangeLeft m r) := Lib.hid (by rw [hrg.left_eq, HK.out.1.left_eq]; exact hlt)
        have HN2 : Hid (MrgRel w1 m r D M (fun z => left z && !z.sameKey (kP x1 x2)) cnt2 G v (w4.alloc (.cells #[.int .i64 x1, .int .i64 x2] 92))) := Lib.hid
          ⟨hrg.alloc _, HN.out.2.1.on ((Below.refl _ _).alloc (Nat.le_refl _) _), HN.out.2.2⟩
        have HM2 : Hid ((w4.alloc (.cells #[.int .i64 x1, .int .i64 x2] 92)).rangeLeft m r < wr.rangeLeft m r) := Lib.hid (by rw [HN2.out.1.left_eq, HK.out.1.left_eq]; exact hlt)
        clear hkey hat hrg hg hs4 hown4 hbel4 hwc hhas hy hyd hv hlt hlk HN HM h0
        go_wp2
        exact ⟨⟨_, cnt2, G, v, rfl, HN2⟩, HM2.out⟩
      · have t : (c2 != 0) = true := by simp [h0]
        obtain ⟨i0, hi, hz0, hz1, hz2⟩ := info_edge
        have hG5 : GrowE w1 G v (w4.alloc (.cells #[.int .i64 x1, .int .i64 x2] 92)) := GrowE.on ⟨hbel4, hown4⟩ ((Below.refl _ _).alloc (Nat.le_refl _) _)
        have hr5 := hrg.alloc (.cells #[.int .i64 x1, .int .i64 x2] 92)
        have hcl := HK.out.2.2.step HD.out.2.1 ip iq hhas hlk (by rw [hwc]; exact h0)
        rw [hwc] at hcl
        have H5 := Lib.hid (And.intro hG5 (And.intro hr5 (And.intro hcl (And.intro (row_ne_low hG5.2 hm1) (row_ne_iter hG5.2 hr5)))))
        have hbs : w1.heap.size ≤ w4.heap.size := hbel4.size
        have HC := Lib.hid HK.out.1.left_eq
        have HLt := Lib.hid hlt
        clear hkey hat hrg hg hs4 hown4 hbel4 hwc hhas hy hyd hv hlt hlk h0 hG5 hr5 hcl
        go_wp2_with (first
          | (at_builtin; refine wpList_append_own _ rfl _ _ 22 rfl w1.heap.size 51 i0 (.agg #[.int .i64 0, .int .i64 0, .int .i64 0]) 3 24 Tryz.underlying22 hi hz0 hz1 hz2 rfl (by decide) v G.length (flatE G) rfl (H5.out.1.2.alloc _) ⟨w4.heap.size + 1, 0, none⟩ 1 1 (cellE (x1, x2, c2)) rfl rfl (three_newsAt (by simp)) ones_edge (by unfold maxLen; omega) (by omega) (by simp; omega) ?_; intro v' w7 hown7 hg7 _; have HO := Lib.hid (And.intro hown7 hg7); clear hown7 hg7))
        have HN : Hid (MrgRel w1 m r D M (fun z => left z && !z.sameKey (kP x1 x2)) cnt2 (G ++ [(x1, x2, c2)]) v' w7) := Lib.hid
          ⟨(H5.out.2.1.alloc _).kept HO.out.2 H5.out.2.2.2.1 H5.out.2.2.2.2, H5.out.1.step (x1, x2, c2) HO.out.1 HO.out.2, H5.out.2.2.1⟩
        exact ⟨⟨_, cnt2, _, v', rfl, HN⟩, by rw [HN.out.1.left_eq, HC.out]; exact HLt.out⟩
end Go.Proofs.YtceejjgmepaonaaGreatDoor
/- Contract of New. -/
namespace Go.Proofs.YtceejjgmepaonaaGreatDoor
open Go.RowKit Go.ChangeShapes EdPure NtPure NumPure
def NewOut (n : Int) (l : List Ed) (w : World) (e : Ending) (w' : World) : Prop :=
  Below w.heap.size w w' ∧ (((errN n l).1 ≠ 0 ∧ e = .returned (.tuple #[.pointer none, .int .i64 (errN n l).1, .int .i64 (errN n l).2])) ∨
    (errN n l = (0, 0) ∧ ∃ (N : Nat) (M : List Ed) (g : Nat), n = N ∧ N ≤ 4096 ∧ GoodN N M ∧ M.length ≤ l.length ∧ l.length ≤ 1048576 ∧ mergeE l = some M ∧ e = .returned (.tuple #[.pointer (some ⟨g, 0, none⟩), .int .i64 0, .int .i64 0]) ∧ NetAt (some ⟨g, 0, none⟩) N M w'))
theorem ret_pii {p : Option Addr} {a b c d : Int} (h1 : a = b) (h2 : c = d) : Ending.returned (.tuple #[.pointer p, .int .i64 a, .int .i64 c]) = .returned (.tuple #[.pointer p, .int .i64 b, .int .i64 d]) := by rw [h1, h2]
set_option maxRecDepth 100000 in
set_option maxHeartbeats 1000000 in
theorem newNet_any (n : Int) (a : Option Addr) (c : Nat) (l : List Ed) (hI : InL l) (w : World) (hR : ReadsE w.heap.size w a l) :
    Calls Tryz.prog 5 #[.int .i64 n, .slice a l.length c] w fun e w' => NewOut n l w e w' := by
  have HR := Lib.hid hR
  have HI := Lib.hid hI
  clear hR hI
  by_cases h1 : n < 0
  · have HE : Hid (errN n l = (1, 0)) := Lib.hid (if_pos h1)
    go_enter Tryz.func5, Tryz.ntmps5
    go_wp2
    go_ret3
    exact ⟨Below.refl _ _, Or.inl ⟨by rw [HE.out]; decide, ret_pii (by rw [HE.out]) (by rw [HE.out])⟩⟩
  by_cases h2 : n > 4096
  · have HE : Hid (errN n l = (3, 0)) := Lib.hid (by unfold errN; rw [if_neg h1, if_pos (Or.inl h2)])
    go_enter Tryz.func5, Tryz.ntmps5
    go_wp2
    go_ret3
    exact ⟨Below.refl _ _, Or.inl ⟨by rw [HE.out]; decide, ret_pii (by rw [HE.out]) (by rw [HE.out])⟩⟩
  by_cases h3 : (l.length : Int) > 1048576
  · have HE : Hid (errN n l = (3, 0)) := Lib.hid (by unfold errN; rw [if_neg h1, if_pos (Or.inr (by omega))])
    go_enter Tryz.func5, Tryz.ntmps5
    go_wp2
    go_ret3
    exact ⟨Below.refl _ _, Or.inl ⟨by rw [HE.out]; decide, ret_pii (by rw [HE.out]) (by rw [HE.out])⟩⟩
  have HE : Hid (errN n l = chkL n l 0) := Lib.hid (by unfold errN; rw [if_neg h1, if_neg (by omega)])
  have HL : Hid (l.length ≤ 1048576) := Lib.hid (by omega)
  have HC := Lib.hid (checks_any n a c l HL.out w HR.out)
  obtain ⟨y, z, hyz⟩ : ∃ y z, chkL n l 0 = (y, z) := ⟨_, _, rfl⟩
  rw [hyz] at HC HE
  by_cases hy : y = 0
  · have hz := chkL_zero (n := n) (l := l) (by rw [hyz]; exact hy)
    rw [hyz] at hz
    simp only [Prod.mk.injEq] at hz
    obtain ⟨rfl, rfl⟩ := hz
    obtain ⟨M, hm, hg, hml⟩ := merged HI.out (chkL_good (by rw [hyz])) HL.out
    obtain ⟨N, rfl⟩ : ∃ N : Nat, n = N := ⟨n.toNat, by omega⟩
    have hN : N ≤ 4096 := by omega
    have HM := Lib.hid (And.intro hm (And.intro hg hml))
    clear hm hg hml hyz hy
    go_enter Tryz.func5, Tryz.ntmps5
    go_wp2_with fail
    refine HC.out.mono ?_
    rintro e w1 ⟨rfl, hb1⟩
    have HB1 := Lib.hid hb1
    have HR1 := Lib.hid (HR.out.over hb1 (Nat.le_refl _))
    clear hb1 HC HR
    go_wp2_with fail
    refine (merge_any a c l HL.out HI.out w1 HR1.out).mono ?_
    rintro e w2 ⟨hb2, ⟨hn, -⟩ | ⟨A, q, cap, hs, rfl, hr⟩⟩
    · rw [HM.out.1] at hn; cases hn
    obtain rfl : M = A := Option.some.inj (HM.out.1.symm.trans hs)
    have HB2 := Lib.hid (HB1.out.trans (hb2.mono HB1.out.size))
    have HR2 := Lib.hid hr
    have HML : Hid (M.length ≤ 1048576) := Lib.hid (Nat.le_trans HM.out.2.2 HL.out)
    clear hb2 hr hs HB1 HR1
    go_wp2_with fail
    refine (starsOf_any N hN q cap M HM.out.2.1 HML.out w2 HR2.out).mono ?_
    rintro e w3 ⟨hb3, b, rfl, hst⟩
    have hb4 : ∀ o, Below w3.heap.size w3 (w3.alloc o) := fun o => (Below.refl _ _).alloc (Nat.le_refl _) _
    have HB4 := Lib.hid (fun o => (HB2.out.trans (hb3.mono HB2.out.size)).trans ((hb4 o).mono (Nat.le_trans HB2.out.size hb3.size)))
    have HR4 := Lib.hid (fun o => (HR2.out.over hb3 (Nat.le_refl _)).over (hb4 o) (Nat.le_refl _))
    have HS4 := Lib.hid (fun o => hst.over (hb4 o) (Nat.le_refl _))
    clear hb3 hst hb4 HB2 HR2
    go_wp2
    go_ret3
    exact ⟨HB4.out _, Or.inr ⟨HE.out, N, M, w3.heap.size, rfl, hN, HM.out.2.1, HM.out.2.2, HL.out, HM.out.1, rfl, Or.inr ⟨w3.heap.size, some ⟨b, 0, none⟩, N, q, cap, rfl, by simp, by simp, by simp, HR4.out _, HS4.out _⟩⟩⟩
  · have HY := Lib.hid hy
    have t : (y != 0) = true := by simpa using hy
    clear hyz hy
    go_enter Tryz.func5, Tryz.ntmps5
    go_wp2_with (first | (go_at_call 16; refine HC.out.mono ?_; rintro e w1 ⟨rfl, hb1⟩; have HB1 := Lib.hid hb1; clear hb1))
    go_ret3
    exact ⟨HB1.out, Or.inl ⟨by rw [HE.out]; exact HY.out, ret_pii (by rw [HE.out]) (by rw [HE.out])⟩⟩
end Go.Proofs.YtceejjgmepaonaaGreatDoor
