/- Texts that the laws of this seat stand on, part 37. -/
import Derived.Test.YtceejjgmepaonaaDoorPk36
import Derived.Test.YtceejjgmepaonaaDoorPk9
import Derived.Shelf.Bits.Mul64
import Derived.Test.YtceejjgmepaonaaDoorProg
import Derived.Test.YtceejjgmepaonaaDoorPk21
import Derived.Laws.IdiomCopy
/- A region that draws its order, within a round of a range: where all its operations but the last only read, they come to the same in whatever order; the last one comes behind them. No function of the program is named. -/
namespace Go.Proofs.YtceejjgmepaonaaDoor
open Go.RowKit
/-- Which slots an operation reads, and which it waits for. -/
def slotsOf (o : Oper) : List Nat := o.op.operands.toList.filterMap fun | .tmp d => some d | _ => none
def waitsB (o : Oper) (j : Nat) : Bool := o.after.toList.any fun e => Region.binds .any e && e.on == j
def calmB (o : Oper) : Bool := o.guard.isNone && (match o.op with | .select _ _ => false | .defer _ => false | _ => true)
/-- What reads an earlier one's slot waits for it. -/
def readsB (ops : List Oper) (k : Nat) (o : Oper) : Bool := (List.range k).all fun j => match ops[j]?.bind (·.dst) with
  | some d => !(slotsOf o).contains d || waitsB o j
  | none => true
def roundB (ops : List Oper) (k : Nat) : Bool :=
  ops.length == k + 1 && ops.all calmB && ops.all (readsB ops k) &&
  (List.range (k + 1)).all (fun i => match ops[i]? with | some o => o.after.toList.all (fun e => !Region.binds .any e || decide (e.on < i)) | none => false) &&
  (match ops[k]? with | some o => (List.range k).all (waitsB o) | none => false)
/-- All slots laid. -/
def putAll (ops : List Oper) (vs : List Value) (a : Act) : Act := (ops.zip vs).foldl (fun a p => a.put p.1.dst p.2) a
theorem put_defers (a : Act) (d : Option Nat) (v : Value) : (a.put d v).defers = a.defers := by cases d <;> rfl
theorem put_size (a : Act) (d : Option Nat) (v : Value) : (a.put d v).tmps.size = a.tmps.size := by cases d <;> simp [Act.put]
theorem put_other (a : Act) (d : Option Nat) (v : Value) (x : Nat) (h : d ≠ some x) : (a.put d v).tmps[x]? = a.tmps[x]? := by
  cases d with
  | none => rfl
  | some d =>
    have : d ≠ x := fun e => h (by rw [e])
    simp [Act.put, this]
theorem putAll_facts : ∀ (ops : List Oper) (vs : List Value) (a : Act), (putAll ops vs a).defers = a.defers ∧ (putAll ops vs a).tmps.size = a.tmps.size ∧ ∀ x, (∀ o ∈ ops, o.dst ≠ some x) → (putAll ops vs a).tmps[x]? = a.tmps[x]?
  | [], vs, a => ⟨rfl, rfl, fun _ _ => rfl⟩
  | o :: ops, [], a => ⟨rfl, rfl, fun _ _ => rfl⟩
  | o :: ops, v :: vs, a => by
    obtain ⟨h1, h2, h3⟩ := putAll_facts ops vs (a.put o.dst v)
    have e : putAll (o :: ops) (v :: vs) a = putAll ops vs (a.put o.dst v) := rfl
    rw [e]
    exact ⟨h1.trans (put_defers _ _ _), h2.trans (put_size _ _ _), fun x hx => (h3 x (fun o' ho' => hx o' (by simp [ho']))).trans (put_other _ _ _ _ (hx o (by simp)))⟩
/-- Each operation but the last reads what stands in its slot at the end. -/
def OpsOk (P : Program) (A : Act) (w : World) : List Oper → Prop
  | [] => True
  | o :: l => (∃ d, o.dst = some d ∧ d < A.tmps.size ∧ (execOp A.eval o).run P w = .ok (.value (A.tmps.getD d undef)) w) ∧ OpsOk P A w l
theorem OpsOk.at {P : Program} {A : Act} {w : World} {l : List Oper} (h : OpsOk P A w l) {i : Nat} {o : Oper} (hi : l[i]? = some o) : ∃ d, o.dst = some d ∧ d < A.tmps.size ∧ (execOp A.eval o).run P w = .ok (.value (A.tmps.getD d undef)) w := by
  induction l generalizing i with
  | nil => simp at hi
  | cons o' l ih =>
    cases i with
    | zero =>
      rw [List.getElem?_cons_zero] at hi
      cases hi
      exact h.1
    | succ i =>
      rw [List.getElem?_cons_succ] at hi
      exact ih h.2 hi
theorem OpsOk.nil {P : Program} {A : Act} {w : World} : OpsOk P A w [] := trivial
theorem OpsOk.cons {P : Program} {A : Act} {w : World} {o : Oper} {l : List Oper} {d : Nat} (h1 : o.dst = some d) (h2 : decide (d < A.tmps.size) = true) (h3 : (execOp A.eval o).run P w = .ok (.value (A.tmps.getD d undef)) w) (h4 : OpsOk P A w l) : OpsOk P A w (o :: l) := ⟨⟨d, h1, of_decide_eq_true h2, h3⟩, h4⟩
theorem waits_spec {o : Oper} {j : Nat} (h : waitsB o j = true) {listed : Array Bool} (hr : o.after.all (fun e => !Region.binds .any e || listed.getD e.on false) = true) : listed.getD j false = true := by
  unfold waitsB at h
  rw [List.any_eq_true] at h
  obtain ⟨e, he, h2⟩ := h
  rw [Bool.and_eq_true, beq_iff_eq] at h2
  rw [Array.all_eq_true'] at hr
  have := hr e (by simpa using he)
  rw [h2.1, h2.2] at this
  simpa using this
set_option maxHeartbeats 1000000 in
theorem region_round {P : Program} {l₀ n id : Nat} {ops : List Oper} {Q : Exit → Act → World → Prop} {a : Act} {w : World} (k : Nat) (vs : List Value) (A : Act) (hm : P.follows .mixedOrders = true) (hck : roundB ops k = true)
    (hA : A = putAll (ops.take k) vs a) (hops : OpsOk P A { w with drawn := w.drawn + 1 } (ops.take k))
    (htail : ∀ o, ops[k]? = some o → o.wpIn (Fence.wide.inRound l₀) n P A { w with drawn := w.drawn + 1 } (fun a' w' => Q .normal a' w') Q) :
    (Code.region id ops.toArray true).wpIn (Fence.wide.inRound l₀) n P Q a w := by
  unfold roundB at hck
  simp only [Bool.and_eq_true, beq_iff_eq] at hck
  obtain ⟨⟨⟨⟨hlen, hcalm⟩, hread⟩, hdst⟩, hlast⟩ := hck
  rw [List.all_eq_true] at hcalm hread hdst
  have hget : ∀ i : Nat, ops.toArray[i]? = ops[i]? := fun i => List.getElem?_toArray
  obtain ⟨f1, f2, f3⟩ := putAll_facts (ops.take k) vs a
  rw [← hA] at f1 f2 f3
  have hdistinct : ∀ (a1 : Act), a1.defers = A.defers → a1.tmps.size = A.tmps.size → (∀ x : Nat, a1.tmps[x]? = A.tmps[x]?) → a1 = A := fun a1 h1 h2 h3 => by
    obtain ⟨t1, d1⟩ := a1
    obtain ⟨t2, d2⟩ := A
    simp only at h1 h2 h3
    have : t1 = t2 := Array.ext_getElem? (fun i => h3 i)
    rw [h1, this]
  -- what stands while those of L are listed
  have claim : ∀ (fuel : Nat) (L : List Nat) (listed : Array Bool) (a1 : Act), L.Nodup → (∀ x ∈ L, x < k) → k + 1 = fuel + L.length → listed.size = k + 1 → (∀ i, i < k + 1 → listed.getD i true = decide (i ∈ L)) →
      (a1.defers = A.defers ∧ a1.tmps.size = A.tmps.size ∧ ∀ x, (∀ j o, j < k → ops[j]? = some o → o.dst = some x → j ∈ L) → a1.tmps[x]? = A.tmps[x]?) →
      wpAnyIn (Fence.wide.inRound l₀) n P .any ops.toArray Q fuel listed a1 { w with drawn := w.drawn + 1 } := by
    intro fuel
    induction fuel with
    | zero =>
      intro L listed a1 hd hl hn _ _ _
      exfalso
      have := List.Nodup.length_le_of_subset (l₁ := L) (l₂ := List.range k) hd (fun x hx => List.mem_range.2 (hl x hx))
      rw [List.length_range] at this
      omega
    | succ fuel ih =>
      intro L listed a1 hd hl hn hsz hlis hinv
      have hin : ∀ i, i ∈ Region.ready .any ops.toArray listed ↔ i < k + 1 ∧ i ∉ L ∧ ∃ o, ops[i]? = some o ∧ o.after.all (fun e => !Region.binds .any e || listed.getD e.on false) = true := fun i => by
        unfold Region.ready
        rw [List.mem_filter, List.mem_range, Bool.and_eq_true]
        have e1 : ops.toArray.size = k + 1 := by simp [hlen]
        rw [e1]
        constructor
        · rintro ⟨h1, h2, h3⟩
          rw [hlis i h1] at h2
          rw [hget] at h3
          cases ho : ops[i]? with
          | none => rw [ho] at h3; simp at h3
          | some o => rw [ho] at h3; exact ⟨h1, by simpa using h2, o, rfl, by simpa using h3⟩
        · rintro ⟨h1, h2, o, ho, h3⟩
          refine ⟨h1, by rw [hlis i h1]; simpa using h2, ?_⟩
          rw [hget, ho]
          simpa using h3
      have hlf : ∀ j, j < k + 1 → listed.getD j false = decide (j ∈ L) := fun j hj => by
        rw [← hlis j hj]
        simp [Array.getD, hsz, hj]
      refine ⟨fun h0 => ?_, fun i hi => ?_⟩
      · -- something is ready
        exfalso
        have hex : ∃ i, i < k + 1 ∧ i ∉ L ∧ ∀ j, j < i → j ∈ L := by
          have : ∃ i, i < k + 1 ∧ i ∉ L := ⟨k, by omega, fun h => by have := hl k h; omega⟩
          obtain ⟨i, hi⟩ := this
          have : ∀ m, ∀ i, i ≤ m → i < k + 1 → i ∉ L → ∃ i, i < k + 1 ∧ i ∉ L ∧ ∀ j, j < i → j ∈ L := by
            intro m
            induction m with
            | zero => intro i h1 h2 h3; exact ⟨i, h2, h3, fun j hj => by omega⟩
            | succ m ihm =>
              intro i h1 h2 h3
              by_cases hc : ∀ j, j < i → j ∈ L
              · exact ⟨i, h2, h3, hc⟩
              · have : ∃ j, j < i ∧ j ∉ L := by
                  apply Classical.byContradiction
                  intro hn
                  exact hc fun j hj => Classical.byContradiction fun hj2 => hn ⟨j, hj, hj2⟩
                obtain ⟨j, hj, hj2⟩ := this
                exact ihm j (by omega) (by omega) hj2
          exact this i i (Nat.le_refl _) hi.1 hi.2
        obtain ⟨i, hi1, hi2, hi3⟩ := hex
        have : i ∈ Region.ready .any ops.toArray listed := by
          rw [hin]
          have ho : ops[i]? = some ops[i] := List.getElem?_eq_getElem (by omega)
          refine ⟨hi1, hi2, ops[i], ho, ?_⟩
          rw [Array.all_eq_true']
          intro e he
          have h4 := hdst i (List.mem_range.2 hi1)
          rw [ho] at h4
          have h5 := List.all_eq_true.1 h4 e (by simpa using he)
          cases hb : Region.binds .any e with
          | false => rfl
          | true =>
            rw [hb] at h5
            have h6 : e.on < i := by simpa using h5
            rw [hlf e.on (by omega), decide_eq_true (hi3 _ h6)]; rfl
        rw [h0] at this
        simp at this
      · obtain ⟨h1, h2, o, ho, h3⟩ := (hin i).1 hi
        have hmem : o ∈ ops := List.mem_of_getElem? ho
        have hc := hcalm o hmem
        have hr := hread o hmem
        unfold calmB at hc
        rw [Bool.and_eq_true] at hc
        have hag : ∀ x ∈ o.op.operands, a1.eval x = A.eval x := by
          intro x hx
          cases x with
          | tmp d =>
            have hs : d ∈ slotsOf o := List.mem_filterMap.2 ⟨.tmp d, by simpa using hx, rfl⟩
            have ht : a1.tmps[d]? = A.tmps[d]? := hinv.2.2 d fun j o' hj ho' hd' => by
              unfold readsB at hr
              have h4 := List.all_eq_true.1 hr j (List.mem_range.2 hj)
              rw [ho'] at h4
              simp only [Option.bind_some, hd'] at h4
              rw [Bool.or_eq_true] at h4
              rcases h4 with h4 | h4
              · rw [List.contains_iff_mem.2 hs] at h4; cases h4
              · have h5 := waits_spec h4 h3
                rw [hlf j (by omega)] at h5
                exact of_decide_eq_true h5
            show a1.tmps.getD d undef = A.tmps.getD d undef
            rw [Array.getD_eq_getD_getElem?, Array.getD_eq_getD_getElem?, ht]
          | const v => rfl
          | global g => rfl
          | func f => rfl
        have hns : ∀ cs b, o.op ≠ .select cs b := fun cs b e => by rw [e] at hc; cases hc.2
        have hnd : ∀ c, o.op ≠ .defer c := fun c e => by rw [e] at hc; cases hc.2
        have hsem : execOp a1.eval o = execOp A.eval o := execOp_congr o hns hag
        have hw : Region.wanted o (yielded ops.toArray a1.tmps) = true := by
          unfold Region.wanted
          cases hg : o.guard with
          | none => rfl
          | some g => rw [hg] at hc; cases hc.1
        unfold wpOpIn
        rw [hget, ho]
        simp only
        rw [if_pos hw]
        by_cases hik : i < k
        · obtain ⟨d, hd1, hd2, hd3⟩ := hops.at (i := i) (o := o) (by rw [List.getElem?_take, if_pos hik]; exact ho)
          refine ⟨fun _ _ => trivial, ?_⟩
          rw [Oper.semAt_eq _ _ _ hnd, hsem, hd3, Oper.uponIn_value]
          refine ih (i :: L) _ _ (List.nodup_cons.2 ⟨h2, hd⟩) (fun x hx => ?_) (by rw [List.length_cons]; omega) (by simpa using hsz) (fun j hj => ?_) ⟨(put_defers _ _ _).trans hinv.1, (put_size _ _ _).trans hinv.2.1, fun x hx => ?_⟩
          · rcases List.mem_cons.1 hx with rfl | hx
            · exact hik
            · exact hl x hx
          · by_cases e : i = j
            · subst e
              rw [Array.getD_eq_getD_getElem?, Array.getElem?_setIfInBounds_self_of_lt (by omega)]
              simp
            · have := hlis j hj
              rw [Array.getD_eq_getD_getElem?] at this
              rw [Array.getD_eq_getD_getElem?, Array.getElem?_setIfInBounds_ne e, this]
              simp [Ne.symm e]
          · by_cases e : d = x
            · subst e
              rw [hd1]
              have hsz1 : d < a1.tmps.size := by rw [hinv.2.1]; exact hd2
              show (a1.tmps.setIfInBounds d _)[d]? = _
              rw [Array.getElem?_setIfInBounds_self_of_lt hsz1, Array.getD_eq_getD_getElem?, Array.getElem?_eq_getElem hd2]
              rfl
            · rw [put_other _ _ _ _ (by rw [hd1]; intro e2; exact e (Option.some.inj e2))]
              refine hinv.2.2 x fun j o' hj ho' hd' => ?_
              rcases List.mem_cons.1 (hx j o' hj ho' hd') with rfl | h6
              · rw [ho] at ho'
                cases ho'
                rw [hd1] at hd'
                exact absurd (Option.some.inj hd') e
              · exact h6
        · have hke : i = k := by omega
          subst hke
          rw [ho] at hlast
          have hall : ∀ j, j < i → j ∈ L := fun j hj => by
            have h5 := waits_spec (List.all_eq_true.1 hlast j (List.mem_range.2 hj)) h3
            rw [hlf j (by omega)] at h5
            exact of_decide_eq_true h5
          have hAA : a1 = A := hdistinct a1 hinv.1 hinv.2.1 fun x => hinv.2.2 x fun j o' hj _ _ => hall j hj
          subst hAA
          refine Oper.wpIn_mono (fun a' w' hq => wpAnyIn_done ?_ hq fuel) (htail o ho)
          unfold Region.ready
          rw [List.filter_eq_nil_iff]
          intro j hj
          have hj2 : j < i + 1 := by
            have := List.mem_range.1 hj
            simpa [hlen] using this
          by_cases e : i = j
          · subst e
            rw [Array.getD_eq_getD_getElem?, Array.getElem?_setIfInBounds_self_of_lt (by omega)]
            simp
          · have := hlis j hj2
            rw [decide_eq_true (hall j (by omega)), Array.getD_eq_getD_getElem?] at this
            rw [Array.getD_eq_getD_getElem?, Array.getElem?_setIfInBounds_ne e, this]
            simp
  refine wpIn_region_any hm ?_
  refine claim _ [] _ a List.nodup_nil (by simp) (by simp [hlen]) (by simp [hlen]) (fun i hi => by simp [hlen, hi]) ⟨f1.symm, f2.symm, fun x hx => (f3 x fun o ho => ?_).symm⟩
  intro hd
  obtain ⟨j, hj, rfl⟩ := List.mem_iff_getElem.1 ho
  have hjk : j < k := by rw [List.length_take] at hj; omega
  rw [List.getElem_take] at hd
  exact absurd (hx j _ hjk (List.getElem?_eq_getElem (by rw [List.length_take] at hj; omega)) hd) (by simp)
end Go.Proofs.YtceejjgmepaonaaDoor
/- The library's contract of bits.Mul64, laid at this program. -/
namespace Go.Proofs
open Go.Shelf
def Tryd.lays264_ren : Go.Shelf.Ren := ⟨fun | 264 => 73 | n => n, fun | 53 => 137 | 46 => 113 | n => n, fun | n => n⟩
theorem Tryd.lays264 : Go.Proofs.Lays.n264 Tryd.prog Tryd.lays264_ren := {
  mixed := by kernel_rfl
  f264 := Tryd.func73.trans (congrArg some (by kernel_rfl))
  t46 := Tryd.underlying113
  a46 := Tryd.isAgg113
  z46 := Tryd.sizeOf113
  v46 := Tryd.zeroValue113
  t53 := Tryd.underlying137
  a53 := Tryd.isAgg137
  z53 := Tryd.sizeOf137
  v53 := Tryd.zeroValue137 }
open Go.RowKit Go.Lib in
theorem Tryd.bits_Mul64 (x y : Nat) (hx : x < 18446744073709551616) (hy : y < 18446744073709551616) (w : World) :
    Calls Tryd.prog 73 #[.int .u64 x, .int .u64 y] w fun e w' => e = .returned (.tuple #[.int .u64 ((x * y / 18446744073709551616 : Nat) : Int), .int .u64 ((x * y % 18446744073709551616 : Nat) : Int)]) ∧ w' = w := Any.bits_Mul64 Tryd.lays264 x y hx hy w
end Go.Proofs
/- slices.Repeat of one number of 64 bits (beside none of comp's). -/
namespace Go.Proofs.YtceejjgmepaonaaDoor.Bg
open Go.RowKit Go.ChangeShapes
/-- The first n places have z. -/
def rpL (N n : Nat) (z : Int) : List Value := (List.range N).map fun i => if i < n then .int .i64 z else .int .i64 0
theorem rpL_len (N n : Nat) (z : Int) : (rpL N n z).length = N := by unfold rpL; simp
theorem rpL_get {N i : Nat} (n : Nat) (z : Int) (h : i < N) : (rpL N n z)[i]? = some (if i < n then .int .i64 z else .int .i64 0) := by
  unfold rpL; rw [List.getElem?_map, List.getElem?_range h]; rfl
theorem rpL_nil (N : Nat) (z : Int) : rpL N 0 z = List.replicate N (.int .i64 0) := by
  refine List.ext_getElem? fun i => ?_
  by_cases h : i < N
  · rw [rpL_get 0 z h, if_neg (by omega)]; simp [h]
  · rw [List.getElem?_eq_none (by rw [rpL_len]; omega), List.getElem?_eq_none (by simp; omega)]
theorem rpL_all (N : Nat) (z : Int) : rpL N N z = List.replicate N (.int .i64 z) := by
  refine List.ext_getElem? fun i => ?_
  by_cases h : i < N
  · rw [rpL_get N z h, if_pos h]; simp [h]
  · rw [List.getElem?_eq_none (by rw [rpL_len]; omega), List.getElem?_eq_none (by simp; omega)]
theorem rpL_at {N n i : Nat} {z : Int} (h : i < n) (hN : i < N) : (rpL N n z)[i]? = some (.int .i64 z) := by
  rw [rpL_get n z hN, if_pos h]
theorem set_grown (b : Nat) : ∀ (vs : List Value) (o : Nat) (w : World), w.grownBy (w.setCells b o vs) (some b)
  | [], _, w => ⟨rfl, rfl, rfl, Nat.le_refl _, fun _ _ _ => rfl⟩
  | v :: r, o, w => by
    have h := set_grown b r (o + 1) (w.setCell ⟨b, o, none⟩ v)
    exact ⟨h.os, h.tape, h.output, Nat.le_trans (by simp) h.size, fun k hk e => (h.block k (by simpa using hk) e).trans (cell_other (fun e2 => e (by rw [e2])))⟩
def RpSt (w : World) (g N n : Nat) (z : Int) (W : World) : Prop := Below w.heap.size w W ∧ w.heap.size ≤ g ∧ g < W.heap.size ∧ RowIs g W (rpL N n z)
theorem RpSt.drawn {w : World} {g N n : Nat} {z : Int} {W : World} (h : RpSt w g N n z W) (k : Nat) : RpSt w g N n z (W.drewN k) := ⟨below_drewN h.1 k, h.2⟩
theorem RpSt.put {w : World} {g N n m : Nat} {z : Int} {W : World} (h : RpSt w g N n z W) (hm : n + m ≤ N) : RpSt w g N (n + m) z (W.setCells g n (List.replicate m (.int .i64 z))) := by
  obtain ⟨h1, h2, h3, h4⟩ := h
  have hg := set_grown g (List.replicate m (.int .i64 z)) n W
  refine ⟨h1.grown hg h1.size (fun k hk => by cases hk; exact h2), h2, Nat.lt_of_lt_of_le h3 hg.size, fun i hi => ?_⟩
  rw [rpL_len] at hi
  have hi' : i < (rpL N n z).length := by rw [rpL_len]; exact hi
  refine ⟨?_, by rw [World.frozen?_setCells]; exact (h4 i hi').2⟩
  by_cases hin : n ≤ i ∧ i < n + m
  · have := World.cell?_setCells_in g (List.replicate m (.int .i64 z)) n W (fun j hj => by
      have hj' : j < m := by simpa using hj
      rw [(h4 (n + j) (by rw [rpL_len]; omega)).1]; rfl) (i - n) (by simp; omega)
    rw [show n + (i - n) = i by omega] at this
    rw [this, (List.getElem?_eq_some_iff.1 (rpL_get (n + m) z hi)).2, if_pos hin.2]
    simp
  · rw [World.cell?_setCells_out g _ n W ⟨g, i, none⟩ (fun _ _ => by simp; omega), (h4 i hi').1]
    rw [(List.getElem?_eq_some_iff.1 (rpL_get (n + m) z hi)).2, (List.getElem?_eq_some_iff.1 (rpL_get n z hi)).2]
    by_cases e : i < n
    · rw [if_pos e, if_pos (by omega)]
    · rw [if_neg e, if_neg (by omega)]
/-- What is read of the first part, and where the next may be put. -/
theorem RpSt.copy {w : World} {g N n m : Nat} {z : Int} {W : World} (h : RpSt w g N n z W) (hm : n + m ≤ N) (hmn : m ≤ n) (hmin : m = Nat.min n (N - n)) (ty : TypeId) :
    (Builtin.copy_ #[90, 90] ty #[.slice (some ⟨g, n, none⟩) (N - n) (N - n), .slice (some ⟨g, 0, none⟩) n N]).run Tryd.prog W = .ok (.int .i64 (m : Int)) (W.setCells g n (List.replicate m (.int .i64 z))) := by
  have := run_copy_cells (P := Tryd.prog) W 90 90 ty 2 g n (N - n) (N - n) ⟨g, 0, none⟩ n N (List.replicate m (.int .i64 z)) Tryd.underlying90 (by kernel_rfl) (by simpa using hmin)
    (fun j v hv => by
      obtain ⟨hj, rfl⟩ := List.getElem?_eq_some_iff.1 hv
      simp at hj
      rw [addr_add, Nat.zero_add, (h.2.2.2 j (by rw [rpL_len]; omega)).1, ← List.getElem?_eq_getElem, rpL_at (by omega) (by omega)]
      simp)
    (fun j hj => by
      simp at hj
      rw [(h.2.2.2 (n + j) (by rw [rpL_len]; omega)).1]; rfl)
    (fun j hj => by
      simp at hj
      exact (h.2.2.2 (n + j) (by rw [rpL_len]; omega)).2)
    (fun v hv => by
      obtain ⟨-, rfl⟩ := List.mem_replicate.1 hv
      rfl)
  rw [List.length_replicate] at this
  exact this
/-- The first number is put. -/
theorem RpSt.first {w : World} {g N : Nat} {z : Int} {W : World} {b c : Nat} (h : RpSt w g N 0 z W) (hb : W.cell? ⟨b, 0, none⟩ = some (.int .i64 z)) (ty : TypeId) :
    ∃ m, m ≤ N ∧ (0 < N → 0 < m) ∧ (Builtin.copy_ #[90, 90] ty #[.slice (some ⟨g, 0, none⟩) N N, .slice (some ⟨b, 0, none⟩) 1 c]).run Tryd.prog W = .ok (.int .i64 (m : Int)) (W.setCells g 0 (List.replicate m (.int .i64 z))) ∧ RpSt w g N m z (W.setCells g 0 (List.replicate m (.int .i64 z))) := by
  obtain ⟨m, hm, hm1, hmN, hm0⟩ : ∃ m, m = Nat.min 1 N ∧ m ≤ 1 ∧ m ≤ N ∧ (0 < N → 0 < m) := ⟨_, rfl, Nat.min_le_left _ _, Nat.min_le_right _ _, fun h0 => Nat.lt_min.2 ⟨Nat.one_pos, h0⟩⟩
  refine ⟨m, hmN, hm0, ?_, ?_⟩
  · have := run_copy_cells (P := Tryd.prog) W 90 90 ty 2 g 0 N N ⟨b, 0, none⟩ 1 c (List.replicate m (.int .i64 z)) Tryd.underlying90 (by kernel_rfl) (by simpa using hm)
      (fun j v hv => by
        obtain ⟨hj, rfl⟩ := List.getElem?_eq_some_iff.1 hv
        rw [List.length_replicate] at hj
        have hj0 : j = 0 := by omega
        subst hj0
        rw [addr_add]
        simpa using hb)
      (fun j hj => by
        rw [List.length_replicate] at hj
        rw [Nat.zero_add, (h.2.2.2 j (by rw [rpL_len]; omega)).1]; rfl)
      (fun j hj => by
        rw [List.length_replicate] at hj
        rw [Nat.zero_add]
        exact (h.2.2.2 j (by rw [rpL_len]; omega)).2)
      (fun v hv => by
        obtain ⟨-, rfl⟩ := List.mem_replicate.1 hv
        rfl)
    rw [List.length_replicate] at this
    exact this
  · have := h.put (m := m) (by omega)
    rwa [Nat.zero_add] at this
def RepOut (N : Nat) (z : Int) (w : World) (e : Ending) (w' : World) : Prop := ∃ g, e = .returned (.slice (some ⟨g, 0, none⟩) N N) ∧ Below w.heap.size w w' ∧ w.heap.size ≤ g ∧ g < w'.heap.size ∧ RowIs g w' (List.replicate N (.int .i64 z))
set_option maxRecDepth 100000 in
set_option maxHeartbeats 4000000 in
theorem repeat_any (b : Nat) (c N : Nat) (z : Int) (hN : N ≤ 4096) (w : World) (h : w.cell? ⟨b, 0, none⟩ = some (.int .i64 z)) :
    Calls Tryd.prog 36 #[.slice (some ⟨b, 0, none⟩) 1 c, .int .i64 (N : Int)] w fun e w' => RepOut N z w e w' := by
  have i1 : ¬ (N : Int) < 0 := by omega
  have hmk := makeRow (P := Tryd.prog) (T := 90) (E := 2) (z := .int .i64 0) (c := 8) Tryd.underlying90 (by kernel_rfl) (by decide) rfl N (by omega) w
  have hS : RpSt w w.heap.size N 0 z (w.alloc (.cells (madeCells #[.int .i64 0] N) 2)) := ⟨(Below.refl _ _).alloc (Nat.le_refl _) _, Nat.le_refl _, by simp, by rw [rpL_nil]; exact rowIs_made w (.int .i64 0) N 2⟩
  have hmul : ∀ W, Calls Tryd.prog 57 #[.int .u64 1, .int .u64 (N : Int)] W fun e w' => e = .returned (.tuple #[.int .u64 0, .int .u64 (N : Int)]) ∧ W = w' := by
    intro W
    have h := Tryd.bits_Mul64 1 N (by omega) (by omega) W
    rw [show 1 * N / 18446744073709551616 = 0 by omega, show 1 * N % 18446744073709551616 = N by omega] at h
    have H := Lib.hid h
    clear h
    go_enter Tryd.func57, Tryd.ntmps57
    go_wp2_with (go_at_call 73; refine H.out.mono ?_; rintro e w' ⟨rfl, rfl⟩)
    go_ret2
    exact ⟨rfl, rfl⟩
  have HM := Lib.hid hmul
  have HS := Lib.hid hS
  clear hmul hS
  go_enter Tryd.func36, Tryd.ntmps36
  go_wp2_with (go_at_call 57; refine (HM.out _).mono ?_; rintro e w' ⟨rfl, rfl⟩)
  go_upto_region 7 with fail
  have hbc : (w.alloc (.cells (madeCells #[.int .i64 0] N) 2)).cell? ⟨b, 0, none⟩ = some (.int .i64 z) := (((Below.refl w.heap.size w).alloc (Nat.le_refl _) _).cell (by have := World.block_lt_of_cell? w _ h; exact this)).trans h
  clear hmk h
  generalize hg : w.heap.size = g at HS
  generalize w.alloc (.cells (madeCells #[.int .i64 0] N) 2) = W1 at *
  obtain ⟨m, hmN, hm0, hrun, hst⟩ := HS.out.first (c := c) hbc 2
  have H1 := Lib.hid hst
  have HG := Lib.hid hg
  clear hst HS hbc hg HM
  have hcp : ∀ ty, (Builtin.copy_ #[90, 90] ty #[.slice (some ⟨g, 0, none⟩) N N, .slice (some ⟨b, 0, none⟩) 1 c]).run Tryd.prog W1 = .ok (.int .i64 (m : Int)) (W1.setCells g 0 (List.replicate m (.int .i64 z))) := fun _ => hrun
  clear hrun
  go_wp2_with fail
  rw [hcp]
  go_wp2_with fail
  clear hcp
  generalize W1.setCells g 0 (List.replicate m (.int .i64 z)) = W2 at *
  go_loopw [8] (fun i wr => ∃ n : Nat, i = .int .i64 n ∧ n ≤ N ∧ (0 < N → 0 < n) ∧ Hid (RpSt w g N n z wr)) (fun i _ => N - (intOf i).toNat)
  case atStart => exact ⟨m, rfl, hmN, hm0, H1⟩
  case round =>
    clear H1 hmN hm0
    obtain ⟨n, rfl, hn, hn0, HR⟩ := hrel
    by_cases hlt : n < N
    · have i2 : (n : Int) < (N : Int) := by omega
      have i3 : (0 : Int) ≤ (n : Int) := by omega
      obtain ⟨k, hk, hk0, hkn, hkN⟩ : ∃ k, k = Nat.min n (N - n) ∧ 0 < k ∧ k ≤ n ∧ k ≤ N - n := ⟨_, rfl, Nat.lt_min.2 ⟨hn0 (by omega), by omega⟩, Nat.min_le_left _ _, Nat.min_le_right _ _⟩
      have hcp := fun ty => RpSt.copy (W := wr.drew) (HR.out.drawn 1) (m := k) (by omega) hkn hk ty
      have HR2 := Lib.hid (RpSt.put (W := wr.drew) (HR.out.drawn 1) (m := k) (by omega))
      have hwr : IntKind.i64.wrap ((n : Int) + (k : Int)) = (n : Int) + (k : Int) := by rw [IntKind.wrap_i64]; omega
      clear hk
      go_wp2_with fail
      go_region_with fail
      all_goals go_roundw
      all_goals first
        | exact ⟨.int .i64 ((n : Int) + (k : Int)), _, _, _, _, _, _, _, _, _, _, _, _, _, ⟨n + k, by go_num, by omega, fun _ => by omega, HR2⟩, rfl⟩
        | (show N - (intOf (.int .i64 ((n : Int) + (k : Int)))).toNat < _; simp [intOf]; omega)
    · have hne : n = N := by omega
      have i2 : ¬ (n : Int) < (N : Int) := by omega
      subst hne
      have HE : Hid (RepOut n z w (.returned (.slice (some ⟨g, 0, none⟩) n n)) wr) := Lib.hid ⟨g, rfl, HR.out.1, HR.out.2.1, HR.out.2.2.1, by rw [← rpL_all]; exact HR.out.2.2.2⟩
      go_wp2
      go_ret
      exact HE.out
end Go.Proofs.YtceejjgmepaonaaDoor.Bg
