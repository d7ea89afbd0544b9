/- Of any faults First tells the first one of those of the least place that have an error, or that there is none. Conditions: none: every slice of faults (of more than a hundred the law asks only that the program tells faults at all); the library's handle of the type error holds what the program's text lays into it, and the card ties that to the text. -/
import Derived.Test.YtlcmdabacoinpaaDoorFaultFirstC
import Derived.Test.YtlcmdabacoinpaaDoorFaultAwake
import Derived.Test.YtlcmdabacoinpaaDoorFaultLaid
import Derived.Test.YtlcmdabacoinpaaDoorTie
import Derived.Test.YtlcmdabacoinpaaDoorCards
import Derived.SevenTiedAt
import Derived.Deep.SlicePairs
import Derived.Deep.QuietTactic
import Derived.BigQuiet
import Derived.Deep.RegionHeld3
import Derived.Carry
namespace Go.Proofs.YtlcmdabacoinpaaDoor.faultFirst
open Go.ChangeShapes Go.WideShapes Go.ChangeAt Go.RowKit Ft
/-- At the head of a round of the law: where the fault of the least place stands so far. -/
def PickRel (l : List (Int × Int)) (i : Nat) (A : Int) : Prop :=
  i ≤ l.length ∧ ((A = -1 ∧ foldF (l.take i) = (0, 0)) ∨ ∃ (j : Nat) (h : j < l.length), A = (j : Int) ∧ j < i ∧ l[j].1 ≠ 0 ∧ foldF (l.take i) = l[j])
theorem pick_skip {l : List (Int × Int)} {i : Nat} {A : Int} (h : PickRel l i A) (hi : i < l.length) (hs : stepF (foldF (l.take i)) l[i] = foldF (l.take i)) : PickRel l (i + 1) A := by
  refine ⟨hi, ?_⟩
  rw [takeF_next l i hi, hs]
  rcases h.2 with h2 | ⟨j, hj, h3, h4, h5, h6⟩
  · exact Or.inl h2
  · exact Or.inr ⟨j, hj, h3, by omega, h5, h6⟩
theorem pick_take {l : List (Int × Int)} {i : Nat} (hi : i < l.length) (hx : l[i].1 ≠ 0) (hs : stepF (foldF (l.take i)) l[i] = l[i]) : PickRel l (i + 1) (i : Int) := by
  refine ⟨hi, Or.inr ⟨i, hi, rfl, Nat.lt_succ_self i, hx, ?_⟩⟩
  rw [takeF_next l i hi, hs]
theorem eq_fault (x y : Int) (w : World) : (binOp BinOp.eql 39 (.agg #[.int .i64 x, .int .i64 y]) (.agg #[.int .i64 x, .int .i64 y])).run Tryd.prog w = .ok (.bool true) w := by
  simp [go_sem]
/-- What stands while the law goes over the list. -/
def LawS (w0 : World) (G : Nat) (a : Option Addr) (l : List (Int × Int)) (w : World) : Prop :=
  Below w0.heap.size w0 w ∧ ReadsP w.heap.size w a l ∧ TwoAt G w (.int .i64 (foldF l).1) (.int .i64 (foldF l).2) ∧ EtAt w
theorem LawS.on {w0 : World} {G : Nat} {a : Option Addr} {l : List (Int × Int)} {w w' : World} (h : LawS w0 G a l w) (hb : Below w.heap.size w w') : LawS w0 G a l w' :=
  ⟨h.1.trans (hb.mono h.1.size), h.2.1.over hb (Nat.le_refl _), h.2.2.1.on hb h.2.2.1.lt, h.2.2.2.on hb⟩
theorem law_keep {w0 : World} {G b off : Nat} {l : List (Int × Int)} {w1 w2 : World} {j : Nat} {x y : Int} (hj : j < l.length) (hx : Hid (l[j] = (x, y) ∧ foldF l = (x, y))) (h : Hid (LawS w0 G (some ⟨b, off, none⟩) l w1)) (hb : Below w1.heap.size w1 w2) :
    w2.cell? ⟨G, 0, none⟩ = some (.int .i64 x) ∧ w2.cell? ⟨G, 1, none⟩ = some (.int .i64 y) ∧ w2.cell? ⟨b, off + j * 2, none⟩ = some (.int .i64 x) ∧ w2.cell? ⟨b, off + j * 2 + 1, none⟩ = some (.int .i64 y) ∧ Hid (LawS w0 G (some ⟨b, off, none⟩) l w2) := by
  have hs := h.out.on hb
  obtain ⟨b', off', e, -, c0, c1⟩ := hs.2.1.at hj
  obtain ⟨rfl, rfl⟩ : b = b' ∧ off = off' := by cases e; exact ⟨rfl, rfl⟩
  rw [hx.out.1] at c0 c1
  obtain ⟨g0, g1, -, -⟩ := hs.2.2.1
  rw [hx.out.2] at g0 g1
  exact ⟨g0, g1, c0, c1, Lib.hid hs⟩
theorem law_et {w0 : World} {G : Nat} {a : Option Addr} {l : List (Int × Int)} {w1 : World} (h : Hid (LawS w0 G a l w1)) : EtAt w1 := h.out.2.2.2
theorem law_bel {w0 : World} {G : Nat} {a : Option Addr} {l : List (Int × Int)} {w1 : World} (h : Hid (LawS w0 G a l w1)) : Below w0.heap.size w0 w1 := h.out.1
set_option maxHeartbeats 2000000 in
theorem walk_list (a : Option Addr) (cap : Nat) (l : List (Int × Int)) (w : World) (hl : ReadsP w.heap.size w a l) (hm : l.length ≤ maxLen) (hg : EtAt w) :
    Calls Tryd.prog 4 #[.slice a l.length cap] w fun x w' => x = .returned (.bool true) ∧ Below w.heap.size w w' := by
  have HL := Lib.hid hl
  have HG := Lib.hid hg
  have HM := Lib.hid hm
  clear hl hg hm
  by_cases h100 : 100 < l.length
  · have hm : l.length ≤ 9223372036854775807 := by have := HM.out; unfold maxLen at this; omega
    go_enter Tryd.func4, Tryd.ntmps4
    go_wp2_with fail
    refine (awake_any _ HG.out).mono ?_
    rintro x w1 ⟨rfl, hb1⟩
    have HB := Lib.hid hb1
    clear hb1
    go_wp2
    go_ret
    exact ⟨rfl, HB.out⟩
  have hlen : l.length ≤ 100 := by omega
  clear h100
  have he := eq_fault
  go_enter Tryd.func4, Tryd.ntmps4
  go_wp2_with fail
  refine (first_any a cap l w HL.out (by omega)).mono ?_
  rintro x w1 ⟨rfl, hb1⟩
  have b2 := (Below.refl w1.heap.size w1).alloc (Nat.le_refl _) (.cells #[.int .i64 (foldF l).1, .int .i64 (foldF l).2] 39)
  have hbb := hb1.trans (b2.mono hb1.size)
  have HS : Hid (LawS w w1.heap.size a l (w1.alloc (.cells #[.int .i64 (foldF l).1, .int .i64 (foldF l).2] 39))) :=
    Lib.hid ⟨hbb, HL.out.over hbb (Nat.le_refl _), TwoAt.new _ _ _ _, HG.out.on hbb⟩
  clear hb1 b2 hbb
  go_wp2
  go_loopw [5, 6] (fun v i wr => ∃ (k : Nat) (A : Int), v = .int .i64 A ∧ i = .int .i64 k ∧ Hid (PickRel l k A) ∧ Hid (LawS w w1.heap.size a l wr)) (fun _ i _ => l.length - (intOf i).toNat)
  case atStart => exact ⟨0, -1, rfl, rfl, Lib.hid ⟨Nat.zero_le _, Or.inl ⟨rfl, by rw [List.take_zero]; rfl⟩⟩, HS⟩
  case round =>
    obtain ⟨k, A, rfl, rfl, HP, HS'⟩ := hrel
    have hk := HP.out.1
    have i0 : (0 : Int) ≤ (k : Int) := by omega
    by_cases hlt : k < l.length
    · obtain ⟨b, off, rfl, hbN, c0, c1⟩ := HS'.out.2.1.at hlt
      have i1 : (k : Int) < (l.length : Int) := by omega
      have HR : Hid (∀ n, LawS w w1.heap.size (some ⟨b, off, none⟩) l (wr.drewN n)) := Lib.hid fun n => HS'.out.on (below_drewN (Below.refl _ _) n)
      have HK : Hid (stepF (foldF (l.take k)) l[k] = foldF (l.take k) → PickRel l (k + 1) A) := Lib.hid (pick_skip HP.out hlt)
      have HT : Hid (l[k].1 ≠ 0 → stepF (foldF (l.take k)) l[k] = l[k] → PickRel l (k + 1) (k : Int)) := Lib.hid fun h1 h2 => pick_take hlt h1 h2
      have hP := HP.out.2
      by_cases hx : l[k].1 = 0
      · have HN := Lib.hid (HK.out (Ft.step_skip (Or.inl hx)))
        have t : (l[k].1 != 0) = false := by simpa using hx
        clear hx hP HK HT
        generalize l[k] = f at *
        obtain ⟨x, y⟩ := f
        simp only at c0 c1 t
        go_wp2
        go_quiet (fail)
        go_wp2
        go_roundw
        case rel => exact ⟨k + 1, A, rfl, by go_num, HN, Lib.hid (HR.out _)⟩
        case measure => (simp [intOf] <;> omega)
      · have t : (l[k].1 != 0) = true := by simpa using hx
        rcases hP with ⟨rfl, hf⟩ | ⟨j, hj, rfl, hji, hj1, hf⟩
        · have HN := Lib.hid (HT.out hx (Ft.step_take hx (Or.inl (by rw [hf]))))
          clear hx hf HK HT
          generalize l[k] = f at *
          obtain ⟨x, y⟩ := f
          simp only at c0 c1 t
          go_wp2
          go_quiet (fail)
          go_wp2
          go_roundw
          case rel => exact ⟨k + 1, k, rfl, by go_num, HN, Lib.hid (HR.out _)⟩
          case measure => (simp [intOf] <;> omega)
        · obtain ⟨b', off', e, -, d0, d1⟩ := HS'.out.2.1.at hj
          obtain ⟨rfl, rfl⟩ : b = b' ∧ off = off' := by cases e; exact ⟨rfl, rfl⟩
          have j0 : (0 : Int) ≤ (j : Int) := by omega
          have j1 : (j : Int) < (l.length : Int) := by omega
          have t2 : decide ((j : Int) < 0) = false := decide_eq_false (by omega)
          by_cases hy : l[k].2 < l[j].2
          · have HN := Lib.hid (HT.out hx (Ft.step_take hx (Or.inr (by rw [hf]; exact hy))))
            clear hx hf HK HT hj1 e d0
            generalize l[j].2 = z at *
            generalize l[k] = f at *
            obtain ⟨x, y⟩ := f
            simp only at c0 c1 t hy
            have t3 : decide (y < z) = true := decide_eq_true hy
            go_wp2
            go_quiet (fail)
            go_wp2
            go_roundw
            case rel => exact ⟨k + 1, k, rfl, by go_num, HN, Lib.hid (HR.out _)⟩
            case measure => (simp [intOf] <;> omega)
          · have HN := Lib.hid (HK.out (Ft.step_skip (Or.inr ⟨by rw [hf]; exact hj1, by rw [hf]; exact hy⟩)))
            clear hx hf HK HT hj1 e d0
            generalize l[j].2 = z at *
            generalize l[k] = f at *
            obtain ⟨x, y⟩ := f
            simp only at c0 c1 t hy
            have t3 : decide (y < z) = false := decide_eq_false hy
            clear hy
            go_wp2
            go_quiet (fail)
            go_wp2
            go_roundw
            case rel => exact ⟨k + 1, j, rfl, by go_num, HN, Lib.hid (HR.out _)⟩
            case measure => (simp [intOf] <;> omega)
    · have hke : k = l.length := by omega
      have hP := HP.out.2
      rw [hke, List.take_length] at hP
      have n1 : ¬(k : Int) < (l.length : Int) := by omega
      clear hke HP
      rcases hP with ⟨rfl, hf⟩ | ⟨j, hj, rfl, -, hj1, hf⟩
      · obtain ⟨g0, g1, -, -⟩ := HS'.out.2.2.1
        have hltG := HS'.out.2.2.1.lt
        have e1 : ((foldF l).1 != 0) = false := by rw [hf]; rfl
        rw [hf] at g0 g1
        clear hf
        go_wp2_with fail
        refine (awake_any wr (law_et HS')).mono ?_
        rintro x w2 ⟨rfl, hb⟩
        have HB := Lib.hid (law_bel (Lib.hid (HS'.out.on hb)))
        clear hb
        go_wp2
        go_ret
        exact ⟨rfl, HB.out⟩
      · obtain ⟨b, off, rfl, hbN, d0, d1⟩ := HS'.out.2.1.at hj
        have HX : Hid (l[j] = (l[j].1, l[j].2) ∧ foldF l = (l[j].1, l[j].2)) := Lib.hid ⟨rfl, hf⟩
        have j0 : (0 : Int) ≤ (j : Int) := by omega
        have j1 : (j : Int) < (l.length : Int) := by omega
        have t2 : decide ((j : Int) < 0) = false := decide_eq_false (by omega)
        have e1 : ((foldF l).1 != 0) = true := by rw [hf]; simpa using hj1
        obtain ⟨g0, g1, d0, d1, -⟩ := law_keep hj HX HS' (Below.refl _ _)
        clear hf hj1
        generalize l[j].1 = x at *
        generalize l[j].2 = y at *
        go_wp2
        go_region_held3 (fun w' => w'.cell? ⟨w1.heap.size, 0, none⟩ = some (.int .i64 x) ∧ w'.cell? ⟨w1.heap.size, 1, none⟩ = some (.int .i64 y) ∧ w'.cell? ⟨b, off + j * 2, none⟩ = some (.int .i64 x) ∧ w'.cell? ⟨b, off + j * 2 + 1, none⟩ = some (.int .i64 y) ∧ Hid (LawS w w1.heap.size (some ⟨b, off, none⟩) l w'))
          (first
            | exact law_keep hj HX HS' ((Below.refl _ _).drew)
            | (go_split_ands; exact law_keep hj HX (by assumption) hb1)
            | go_keep)
          (first
            | (go_at_call 6; go_split_ands; refine (awake_any _ (law_et (by assumption))).mono ?_; rintro x w' ⟨rfl, hb1⟩))
        go_wp2
        go_ret
        go_split_ands
        exact ⟨rfl, law_bel (by assumption)⟩
theorem laidOut : laidOutB Tryd.prog = true := by kernel_rfl
def asI : Value → Int
  | .int _ n => n
  | _ => 0
theorem open_faults {H : Type} {enc : TypeId × Value → H} {W : World} {base fuel : Nat} {a : Option Addr} {len cap : Nat} {x : DataW H × List MemPlace}
    (hf : DataW.trod enc Tryd.prog W base (fun _ => true) true fuel 37 (Value.slice a len cap).cells.toList = some x) :
    ∃ l : List (Int × Int), l.length = len ∧ ReadsP W.heap.size W a l ∧ l.length ≤ maxLen := by
  rcases Go.Deep.open_slice_pairs Tryd.underlying37 Tryd.underlying39 (by kernel_rfl) rfl rfl (by kernel_rfl) (by kernel_rfl) hf with ⟨hcs, _⟩ | ⟨y, ln, c, m, n, V0, V1, D0, D1, P0, P1, hcs, _, hl, hm, hmm, _, hi⟩
  · simp [Value.cells] at hcs
    obtain ⟨rfl, rfl, rfl⟩ := hcs
    exact ⟨[], rfl, Or.inl rfl, Nat.zero_le _⟩
  · simp [Value.cells] at hcs
    obtain ⟨rfl, rfl, rfl⟩ := hcs
    have hmc : m = cap := by simpa using hmm
    subst hmc
    refine ⟨(List.range len).map fun i => (asI (V0 i), asI (V1 i)), by simp, ?_, by simp; omega⟩
    by_cases h0 : len = 0
    · left; simp [h0]
    · right
      have hz := (hi 0 (by omega)).1
      obtain ⟨b, off, spot⟩ := y
      have hspot : spot = none := by simpa [Addr.add] using World.cell?_spot hz
      subst hspot
      refine ⟨b, off, rfl, World.block_lt_of_cell? W _ hz, fun i h => ?_⟩
      have hil : i < len := by simpa using h
      obtain ⟨g0, g1, t0, t1⟩ := hi i (by omega)
      rw [addr_add] at g0 g1
      rw [List.getElem_map, List.getElem_range]
      obtain ⟨n0, e0, -, -⟩ := DataW.trod_int (t := 27) Tryd.underlying27 t0
      obtain ⟨n1, e1, -, -⟩ := DataW.trod_int (t := 3) Tryd.underlying3 t1
      have e0' : V0 i = .int .i64 n0 := by simpa using e0
      have e1' : V1 i = .int .i64 n1 := by simpa using e1
      rw [e0'] at g0
      rw [e1'] at g1
      rw [e0', e1']
      exact ⟨g0, g1⟩
set_option maxRecDepth 100000 in
theorem lifted (os : Os) (started : os.Started) (H : Type) (enc : TypeId × Value → H) :
    ReturnsInHanded {} Tryd.checked os 4 .any (fun w args => (Rows.faultFirstSpec.pre enc Tryd.prog Tryd.f4 [] false w args ∧ laidMetH Tryd.prog Rows.faultFirstRow.laid w) ∧ sizedMet enc Tryd.prog Tryd.f4 (OpenSpec.ofChange Rows.faultFirstSpec) false w args)
      (Rows.faultFirstSpec.post enc Tryd.prog Tryd.f4 false true false false) := by
  refine returnsInHanded_of_change_and (C := Tryd.checked) (X := fun w _ => laidMetH Tryd.prog Rows.faultFirstRow.laid w) (fun _ _ _ hh h => h.of_heap hh) own started (by kernel_rfl) Tryd.func4
    (ChangeSpec.witness_at (enc := enc) (C := Tryd.checked) (os := os) (X := fun w _ => laidMetH Tryd.prog Rows.faultFirstRow.laid w) false (laidWorldF Tryd.prog os) #[.slice none 0 0] 8 rfl (by kernel_rfl) (by kernel_rfl) (by kernel_rfl) (by kernel_rfl) (by kernel_rfl) (laid_metF os _)) ?_
  intro W base args ds gs before hval0 hW _ _ hL _
  have hval : ∀ (j : Nat) t v, Tryd.f4.params[j]? = some t → args[j]? = some v → Value.okWide Tryd.prog W .any base t v := hval0
  have hW' := hW
  obtain ⟨p, q, hA0, hV, rfl, hfz, hnd⟩ := hW
  have hA : DataW.TrodAll enc Tryd.prog W 0 (fun _ => true) true Tryd.f4.params.toList args.toList ds p := hA0
  rw [Tryd.params4] at hA hval
  obtain ⟨v0, vs0, d0, ds0, p0, q0, hargs, rfl, rfl, h0, r0⟩ := trodAll_cons hA
  obtain ⟨rfl, rfl, rfl⟩ := trodAll_nil r0
  obtain rfl : args = #[v0] := by cases args; simp_all
  obtain ⟨rfl, rfl⟩ := trodVars_none hV
  obtain ⟨a0, len0, cap0, rfl⟩ := okWide_slice Tryd.underlying37 (hval 0 37 v0 rfl rfl)
  have k0 := h0
  have lt0 : ∀ x ∈ p0, x.block < W.heap.size := by obtain ⟨m, hm⟩ := k0; exact DataW.trod_lt m _ _ _ hm
  obtain ⟨l, hlen, w0⟩ : ∃ l : List (Int × Int), l.length = len0 ∧ ReadsP W.heap.size W a0 l ∧ l.length ≤ maxLen := by
    obtain ⟨fuel, hf⟩ := h0
    exact open_faults hf
  subst hlen
  clear hA0 hval0
  refine (walk_list a0 cap0 l W w0.1 w0.2 (et_of_first hL)).mono fun e W' ⟨he, bel⟩ => ?_
  subst he
  exact ⟨_, rfl, _, _, _, [], _, [], hW', trodAll_mk1 (shut_bool Tryd.underlying4 _), (trodAll_cons_mk (Below.trod laidOut (by kernel_rfl) (of_decide_eq_true (by kernel_rfl)) k0 bel lt0) trodAll_mk0), rfl, bel.frame _, fun h => by cases h⟩
theorem over : Rows.faultFirstRow.holds Tryd.pinned (OpenSpec.ofChange Rows.faultFirstSpec) :=
  OpenClaim.holds_of_wide 4 Tryd.f4 rfl rfl rfl rfl rfl rfl rfl ⟨rfl, rfl, rfl, rfl, rfl⟩ rfl rfl rfl rfl rfl (by kernel_rfl) Tryd.func4 (by kernel_rfl)
    (of_decide_eq_true (by kernel_rfl)) (by unfold Func.isWrapper; first | (rw [if_pos (by decide +kernel)]; kernel_rfl) | (rw [if_neg (by decide +kernel)]; exact ⟨rfl, rfl⟩))
    (fun os started H enc _ => lifted os started H enc)
/-- The statement: the tied card. -/
theorem proved : Rows.FaultFirstCardSaid :=
  Claim7.holds_tied_plain_at .later [] [.handle] true Rows.faultFirstCard.stood.harness Rows.faultFirstCard.stood.looks
    over (fun _ h => by cases h) (by kernel_rfl) (fun _ h => by cases h) faultFirst_row_tie rfl ⟨rfl, rfl⟩ (by kernel_rfl) rfl
    (fun f fn hf hfn => by
      obtain rfl : f = 4 := Option.some.inj ((show Tryd.prog.funcNamed Rows.faultFirstRow.func = some 4 by kernel_rfl).symm.trans hf) |>.symm
      obtain rfl : fn = Tryd.f4 := (Option.some.inj (Tryd.func4.symm.trans hfn)).symm
      exact ⟨by kernel_rfl, fun j t ht => by
        rw [Tryd.params4] at ht
        have hall : ∀ t ∈ #[37], Tryd.prog.wantsStandIn t = false := by decide +kernel
        exact hall t (Array.mem_of_getElem? ht)⟩)
    (by kernel_rfl)
#print axioms proved
end Go.Proofs.YtlcmdabacoinpaaDoor.faultFirst
