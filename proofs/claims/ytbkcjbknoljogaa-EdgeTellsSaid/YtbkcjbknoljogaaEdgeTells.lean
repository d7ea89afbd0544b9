/- Whether any edges may be, the normal form of one, how one compares with each, where one is, what all weigh together: all as the document says. Conditions: none: every number, every slice of edges (of more than a hundred the law asks only that the program merges edges at all), every edge. -/
import Derived.Test.YtbkcjbknoljogaaEdAwake
import Derived.Test.YtbkcjbknoljogaaEdRefCmp
import Derived.Test.YtbkcjbknoljogaaEdOpen
import Derived.Test.YtbkcjbknoljogaaChecked
import Derived.Test.YtbkcjbknoljogaaRows
import Derived.ChangeSlices
import Derived.ProofKit
import Derived.OpenShut
import Derived.ChangeOld
import Derived.Below
import Derived.Deep.RegionHeld3
import Derived.Carry
namespace Go.Proofs.Ytbkcjbknoljogaa.edgeTells
open Go.ChangeShapes Go.WideShapes Go.ChangeAt Go.RowKit EdPure NumPure
@[go_sem] theorem eq_told (a b a' b' : Int) (w : World) : (Op.equalIn 10000 30 (.agg #[.int .i64 a, .int .i64 b]) (.agg #[.int .i64 a', .int .i64 b'])).run Try.prog w = .ok (a == a' && b == b') w := by
  have u3 := Try.underlying3
  have a3 := Try.isAgg3
  have z3 := Try.sizeOf3
  have u2 := Try.underlying26
  have a2 := Try.isAgg26
  have z2 := Try.sizeOf26
  have hS : Try.prog.underlying 30 = some (.struct (Try.prog.fieldsOf 30)) := by kernel_rfl
  have hp : Try.prog.stoodInHeld 30 = false := by kernel_rfl
  rw [show (10000 : Nat) = 9999 + 1 from rfl, run_equalIn_agg w 9999 30 _ _ hS hp]
  simp only [Program.fieldsOf, Try.underlying30]
  go_simp
  by_cases h1 : a = a' <;> by_cases h2 : b = b' <;> simp [h1, h2]
@[go_sem] theorem eq_res (a a' : Int) (b b' : Bool) (w : World) : (Op.equalIn 10000 39 (.agg #[.int .i64 a, .bool b]) (.agg #[.int .i64 a', .bool b'])).run Try.prog w = .ok (a == a' && b == b') w := by
  have u3 := Try.underlying2
  have a3 := Try.isAgg2
  have z3 := Try.sizeOf2
  have u2 := Try.underlying4
  have a2 := Try.isAgg4
  have z2 := Try.sizeOf4
  have hS : Try.prog.underlying 39 = some (.struct (Try.prog.fieldsOf 39)) := by kernel_rfl
  have hp : Try.prog.stoodInHeld 39 = false := by kernel_rfl
  rw [show (10000 : Nat) = 9999 + 1 from rfl, run_equalIn_agg w 9999 39 _ _ hS hp]
  simp only [Program.fieldsOf, Try.underlying39]
  go_simp
  by_cases h1 : a = a' <;> cases b <;> cases b' <;> simp [h1]
def TellSt (W : World) (N : Nat) (a : Option Addr) (l : List Ed) (u v x : Int) (w : World) : Prop := Below W.heap.size W w ∧ ReadsE w.heap.size w a l ∧ ThreeAt N w (.int .i64 u) (.int .i64 v) (.int .i64 x)
section
variable {W w w' : World} {N : Nat} {a : Option Addr} {l : List Ed} {u v x : Int}
theorem TellSt.keep (h : TellSt W N a l u v x w) (hb : Below w.heap.size w w') : TellSt W N a l u v x w' := ⟨h.1.trans (hb.mono h.1.size), h.2.1.over hb (Nat.le_refl _), h.2.2.on hb h.2.2.lt⟩
theorem tell_cells (h : Hid (TellSt W N a l u v x w)) : w.cell? ⟨N, 0, none⟩ = some (.int .i64 u) ∧ w.cell? ⟨N, 1, none⟩ = some (.int .i64 v) ∧ w.cell? ⟨N, 2, none⟩ = some (.int .i64 x) ∧ Hid (TellSt W N a l u v x w) :=
  ⟨h.out.2.2.1, h.out.2.2.2.1, h.out.2.2.2.2.1, h⟩
theorem tell_keep (h : Hid (TellSt W N a l u v x w)) (hb : Below w.heap.size w w') : w'.cell? ⟨N, 0, none⟩ = some (.int .i64 u) ∧ w'.cell? ⟨N, 1, none⟩ = some (.int .i64 v) ∧ w'.cell? ⟨N, 2, none⟩ = some (.int .i64 x) ∧ Hid (TellSt W N a l u v x w') :=
  tell_cells (Lib.hid (h.out.keep hb))
theorem tell_at (h : Hid (TellSt W N a l u v x w)) {k : Nat} (hk : k < l.length) {p q y : Int} (he : l[k] = (p, q, y)) : ∃ b off, a = some ⟨b, off, none⟩ ∧ b < w.heap.size ∧ w.cell? ⟨b, off + k * 3, none⟩ = some (.int .i64 p) ∧ w.cell? ⟨b, off + k * 3 + 1, none⟩ = some (.int .i64 q) ∧ w.cell? ⟨b, off + k * 3 + 2, none⟩ = some (.int .i64 y) := by
  obtain ⟨b, off, h1, -, h2, h3, h4, h5⟩ := h.out.2.1.cells hk (Below.refl _ _) he
  exact ⟨b, off, h1, h2, h3, h4, h5⟩
end
theorem tell_keep6 {W w w' : World} {N b off k : Nat} {l : List Ed} {u v x p q y : Int} (hk : k < l.length) (he : Hid (l[k] = (p, q, y))) (h : Hid (TellSt W N (some ⟨b, off, none⟩) l u v x w)) (hb : Below w.heap.size w w') :
    w'.cell? ⟨N, 0, none⟩ = some (.int .i64 u) ∧ w'.cell? ⟨N, 1, none⟩ = some (.int .i64 v) ∧ w'.cell? ⟨N, 2, none⟩ = some (.int .i64 x) ∧ w'.cell? ⟨b, off + k * 3, none⟩ = some (.int .i64 p) ∧ w'.cell? ⟨b, off + k * 3 + 1, none⟩ = some (.int .i64 q) ∧ w'.cell? ⟨b, off + k * 3 + 2, none⟩ = some (.int .i64 y) ∧ Hid (TellSt W N (some ⟨b, off, none⟩) l u v x w') := by
  have h' := tell_keep h hb
  obtain ⟨b2, off2, e, -, h3, h4, h5⟩ := tell_at h'.2.2.2 hk he.out
  cases e
  exact ⟨h'.1, h'.2.1, h'.2.2.1, h3, h4, h5, h'.2.2.2⟩
theorem cmp_below (a b : Ed) (w : World) : Calls Try.prog 13 #[encE a, encE b] w fun e w' => e = .returned (.int .i64 (cmpE a b)) ∧ Below w.heap.size w w' := by
  refine (cmp_any a b w).mono ?_
  rintro e w' ⟨rfl, q, os, rfl⟩
  exact ⟨rfl, rfl, rfl, rfl, by simp [Go.Sort.grow, World.drewN], fun k hk => by
    show (w.heap ++ os)[k]? = w.heap[k]?
    rw [Array.getElem?_append_left hk]⟩
set_option maxRecDepth 100000 in
set_option maxHeartbeats 2000000 in
theorem walk_list (n : Int) (a : Option Addr) (cap : Nat) (l : List Ed) (e : Ed) (W : World) (h1 : EdIn W a l) (_h2 : l.length ≤ maxLen) (h3 : InE e) :
    Calls Try.prog 3 #[.int .i64 n, .slice a l.length cap, encE e] W fun r w' => r = .returned (.bool true) ∧ Below W.heap.size W w' := by
  obtain ⟨u, v, x⟩ := e
  have HB0 : Hid (Below W.heap.size W (W.alloc (.cells #[.int .i64 u, .int .i64 v, .int .i64 x] 24))) := Lib.hid ((Below.refl _ _).alloc (Nat.le_refl _) _)
  by_cases hlen : l.length ≤ 100
  · have HI := Lib.hid h1.1
    have HT0 : Hid (TellSt W W.heap.size a l u v x (W.alloc (.cells #[.int .i64 u, .int .i64 v, .int .i64 x] 24))) := Lib.hid ⟨HB0.out, h1.2.over HB0.out (Nat.le_refl _), ThreeAt.new _ _ _ _ _⟩
    have i1 : ¬ (l.length : Int) > 100 := by omega
    have HX := Lib.hid (fun w (h : Hid (TellSt W W.heap.size a l u v x w)) => checks_any n a cap l (by omega) w h.out.2.1)
    have HY := Lib.hid (fun w (h : Hid (TellSt W W.heap.size a l u v x w)) => refChecks_any n a cap l (by omega) w h.out.2.1)
    have HC1 := Lib.hid (fun w => check_any n (u, v, x) w)
    have HC2 := Lib.hid (fun w => refCheck_any n (u, v, x) w)
    have HN1 := Lib.hid (fun w => normal_any (u, v, x) w)
    have HN2 := Lib.hid (fun w => refNormal_any (u, v, x) w)
    have HF1 := Lib.hid (fun w (h : Hid (TellSt W W.heap.size a l u v x w)) => find_any a cap l (by omega) u v w h.out.2.1)
    have HF2 := Lib.hid (fun w (h : Hid (TellSt W W.heap.size a l u v x w)) => refFind_any a cap l (by omega) u v w h.out.2.1)
    have HT1 := Lib.hid (fun w (h : Hid (TellSt W W.heap.size a l u v x w)) => total_any a cap l (by omega) HI.out w h.out.2.1)
    have HT2 := Lib.hid (fun w (h : Hid (TellSt W W.heap.size a l u v x w)) => refTotal_any a cap l (by omega) HI.out w h.out.2.1)
    clear h1 h3 HI
    generalize (chkL n l 0).1 = r1 at *
    generalize (chkL n l 0).2 = r2 at *
    generalize chkE n (u, v, x) = r3 at *
    generalize normE (u, v, x) = z at *
    generalize findE l u v = r4 at *
    generalize (sumS (wts l)).1 = r5 at *
    generalize (sumS (wts l)).2 = r6 at *
    obtain ⟨z1, z2, z3⟩ := z
    unfold encE at HC1 HC2 HN1 HN2 ⊢
    simp only at HC1 HC2 HN1 HN2 ⊢
    go_enter Try.func3, Try.ntmps3
    go_wp2_with fail
    generalize W.alloc (.cells #[.int .i64 u, .int .i64 v, .int .i64 x] 24) = W0 at *
    refine (HX.out _ HT0).mono ?_
    rintro e w1 ⟨rfl, hb1⟩
    have HS := Lib.hid (HT0.out.keep hb1)
    clear hb1 HX HT0 HB0
    go_wp2
    go_region_held3 (fun w' => w'.cell? ⟨W.heap.size, 0, none⟩ = some (.int .i64 u) ∧ w'.cell? ⟨W.heap.size, 1, none⟩ = some (.int .i64 v) ∧ w'.cell? ⟨W.heap.size, 2, none⟩ = some (.int .i64 x) ∧ Hid (TellSt W W.heap.size a l u v x w'))
      (first
        | exact tell_keep HS ((Below.refl _ _).drew)
        | (go_split_ands; exact tell_keep (by assumption) hb7)
        | go_keep)
      (first
        | (go_at_call 8; go_split_ands; refine (HY.out _ (by assumption)).mono ?_; rintro e v1 ⟨rfl, hb7⟩)
        | (go_at_call 9; refine (HC1.out _).mono ?_; rintro e v1 ⟨rfl, hb7⟩)
        | (go_at_call 10; refine (HC2.out _).mono ?_; rintro e v1 ⟨rfl, hb7⟩)
        | (go_at_call 11; refine (HN1.out _).mono ?_; rintro e v1 ⟨rfl, hb7⟩)
        | (go_at_call 12; refine (HN2.out _).mono ?_; rintro e v1 ⟨rfl, hb7⟩))
    have HS1 := (by assumption : _ ∧ _ ∧ _ ∧ Hid (TellSt W W.heap.size a l u v x v1)).2.2.2
    clear HY HC1 HC2 HN1 HN2 HS
    go_wp2
    go_loopw [9] (fun i wr => ∃ k : Nat, i = .int .i64 k ∧ Hid (k ≤ l.length ∧ TellSt W W.heap.size a l u v x wr)) (fun i _ => l.length - (intOf i).toNat)
    case atStart => exact ⟨0, rfl, Lib.hid ⟨Nat.zero_le _, HS1.out⟩⟩
    case round =>
      obtain ⟨k, rfl, HK⟩ := hrel
      have i0 : (0 : Int) ≤ (k : Int) := by omega
      by_cases hlt : k < l.length
      · have i2 : (k : Int) < (l.length : Int) := by omega
        obtain ⟨p, q, y, he⟩ : ∃ p q y, l[k] = (p, q, y) := ⟨_, _, _, rfl⟩
        have HE := Lib.hid he
        have HS := Lib.hid HK.out.2
        obtain ⟨b, off, rfl, hbw, c0, c1, c2⟩ := tell_at HS hlt he
        have HC1 := Lib.hid (fun w => cmp_below (u, v, x) (p, q, y) w)
        have HC2 := Lib.hid (fun w => refCmp_any (u, v, x) (p, q, y) w)
        unfold encE at HC1 HC2
        simp only at HC1 HC2
        generalize cmpE (u, v, x) (p, q, y) = r at *
        clear he HF1 HF2 HT1 HT2 HS1 hbw c0 c1 c2
        go_wp2
        go_region_held3 (fun w' => w'.cell? ⟨W.heap.size, 0, none⟩ = some (.int .i64 u) ∧ w'.cell? ⟨W.heap.size, 1, none⟩ = some (.int .i64 v) ∧ w'.cell? ⟨W.heap.size, 2, none⟩ = some (.int .i64 x) ∧ w'.cell? ⟨b, off + k * 3, none⟩ = some (.int .i64 p) ∧ w'.cell? ⟨b, off + k * 3 + 1, none⟩ = some (.int .i64 q) ∧ w'.cell? ⟨b, off + k * 3 + 2, none⟩ = some (.int .i64 y) ∧ Hid (TellSt W W.heap.size (some ⟨b, off, none⟩) l u v x w'))
          (first
            | exact tell_keep6 hlt HE HS ((Below.refl _ _).drew)
            | (go_split_ands; exact tell_keep6 hlt HE (by assumption) hb7)
            | go_keep)
          (first
            | (go_at_call 13; refine (HC1.out _).mono ?_; rintro e v1 ⟨rfl, hb7⟩)
            | (go_at_call 14; refine (HC2.out _).mono ?_; rintro e v1 ⟨rfl, hb7⟩))
        have HS2 := (by assumption : _ ∧ _ ∧ _ ∧ _ ∧ _ ∧ _ ∧ Hid (TellSt W W.heap.size (some ⟨b, off, none⟩) l u v x v1)).2.2.2.2.2.2
        clear HS HC1 HC2
        go_wp2
        go_roundw
        case rel => exact ⟨k + 1, by go_num, Lib.hid ⟨hlt, HS2.out⟩⟩
        case measure => (simp [intOf]; omega)
      · have hk : k = l.length := by have := HK.out.1; omega
        subst hk
        have HS := Lib.hid HK.out.2
        clear HK HS1
        go_wp2_with fail
        refine (HT1.out _ HS).mono ?_
        rintro e w2 ⟨rfl, hb2⟩
        have HS2 := Lib.hid (HS.out.keep hb2)
        clear hb2 HT1 HS
        have s5 : (r5 == r5) = true := beq_self_eq_true _
        have s6 : (r6 == r6) = true := beq_self_eq_true _
        have s4 : (r4 == r4) = true := beq_self_eq_true _
        go_wp2
        go_region_held3 (fun w' => w'.cell? ⟨W.heap.size, 0, none⟩ = some (.int .i64 u) ∧ w'.cell? ⟨W.heap.size, 1, none⟩ = some (.int .i64 v) ∧ w'.cell? ⟨W.heap.size, 2, none⟩ = some (.int .i64 x) ∧ Hid (TellSt W W.heap.size a l u v x w'))
          (first
            | exact tell_keep HS2 ((Below.refl _ _).drew)
            | (go_split_ands; exact tell_keep (by assumption) hb7)
            | go_keep)
          (first
            | (go_at_call 16; go_split_ands; refine (HF1.out _ (by assumption)).mono ?_; rintro e v1 ⟨rfl, hb7⟩)
            | (go_at_call 17; go_split_ands; refine (HF2.out _ (by assumption)).mono ?_; rintro e v1 ⟨rfl, rfl⟩)
            | (go_at_call 18; go_split_ands; refine (HT2.out _ (by assumption)).mono ?_; rintro e v1 ⟨rfl, hb7⟩)
            | (go_at_call 6; refine (awake_any _).mono ?_; rintro e v1 ⟨rfl, hb7⟩))
        have HS3 := (by assumption : _ ∧ _ ∧ _ ∧ Hid (TellSt W W.heap.size a l u v x v1)).2.2.2
        go_wp2
        go_ret
        exact ⟨rfl, HS3.out.1⟩
  · have i1 : (l.length : Int) > 100 := by omega
    unfold encE
    go_enter Try.func3, Try.ntmps3
    go_wp2_with fail
    refine (awake_any _).mono ?_
    rintro e w1 ⟨rfl, hb1⟩
    have HB1 := Lib.hid (HB0.out.trans (hb1.mono HB0.out.size))
    clear hb1
    go_wp2
    go_ret
    exact ⟨rfl, HB1.out⟩
theorem own : ownKnob Try.prog.godebug = none := by kernel_rfl
theorem laidOut : laidOutB Try.prog = true := by kernel_rfl
set_option maxRecDepth 100000 in
theorem lifted (os : Os) (started : os.Started) (H : Type) (enc : TypeId × Value → H) :
    ReturnsInHanded {} Try.checked os 3 .any (Rows.edgeTellsSpec.pre6 enc Try.prog Try.f3 Rows.edgeTellsRow.domain false) (Rows.edgeTellsSpec.post enc Try.prog Try.f3 false true false false) := by
  refine returnsInHanded_of_change (C := Try.checked) own started (by kernel_rfl) Try.func3
    (ChangeSpec.witness6 (enc := enc) (C := Try.checked) false ⟨#[], #[.int .i64 0, .slice none 0 0, .agg #[.int .i64 0, .int .i64 0, .int .i64 0]], []⟩ 8 (by kernel_rfl) (by kernel_rfl) (by kernel_rfl) (by kernel_rfl)) ?_
  intro W base args ds gs before hval0 hW hcnd _
  have hval : ∀ (j : Nat) t v, Try.f3.params[j]? = some t → args[j]? = some v → Value.okWide Try.prog W .any base t v := hval0
  have hW' := hW
  obtain ⟨p, q, hA0, hV, rfl, hfz, hnd⟩ := hW
  have hA : DataW.TrodAll enc Try.prog W 0 (fun _ => true) true Try.f3.params.toList args.toList ds p := hA0
  rw [Try.params3] at hA hval
  obtain ⟨v0, vs0, d0, ds0, p0, q0, hargs, rfl, rfl, h0, r0⟩ := trodAll_cons hA
  obtain ⟨v1, vs1, d1, ds1, p1, q1, rfl, rfl, rfl, h1, r1⟩ := trodAll_cons r0
  obtain ⟨v2, vs2, d2, ds2, p2, q2, rfl, rfl, rfl, h2, r2⟩ := trodAll_cons r1
  obtain ⟨rfl, rfl, rfl⟩ := trodAll_nil r2
  obtain rfl : args = #[v0, v1, v2] := by cases args; simp_all
  obtain ⟨rfl, rfl⟩ := trodVars_none hV
  obtain ⟨a0, rfl, rfl, rfl, w0⟩ := open_int Try.underlying3 (hval 0 3 v0 rfl rfl) h0
  obtain ⟨a1, len1, cap1, rfl⟩ := okWide_slice Try.underlying22 (hval 1 22 v1 rfl rfl)
  have k1 := h1
  have lt1 : ∀ x ∈ p1, x.block < W.heap.size := by obtain ⟨m, hm⟩ := k1; exact DataW.trod_lt m _ _ _ hm
  obtain ⟨l1, hlen1, w1⟩ : ∃ l : List Ed, l.length = len1 ∧ EdIn W a1 l ∧ l.length ≤ maxLen := by
    obtain ⟨fuel, hf⟩ := h1
    exact open_edges hf
  subst hlen1
  have k2 := h2
  have lt2 : ∀ x ∈ p2, x.block < W.heap.size := by obtain ⟨m, hm⟩ := k2; exact DataW.trod_lt m _ _ _ hm
  obtain ⟨a2, rfl, w2⟩ := open_edge (hval 2 24 v2 rfl rfl) h2
  clear hA0 hval0
  refine (walk_list a0 a1 cap1 l1 a2 W w1.1 w1.2 w2).mono fun e W' ⟨he, bel⟩ => ?_
  subst he
  exact ⟨_, rfl, _, _, _, [], _, [], hW', trodAll_mk1 (shut_bool Try.underlying4 _), (trodAll_cons_mk (shut_int Try.underlying3 w0) (trodAll_cons_mk (Below.trod laidOut (by kernel_rfl) (of_decide_eq_true (by kernel_rfl)) k1 bel lt1) (trodAll_cons_mk (Below.trod laidOut (by kernel_rfl) (of_decide_eq_true (by kernel_rfl)) k2 bel lt2) trodAll_mk0))), rfl, bel.frame _, fun h => by cases h⟩
theorem over : Rows.edgeTellsRow.holds Try.pinned (OpenSpec.ofChange Rows.edgeTellsSpec) :=
  OpenClaim.holds_of_wide 3 Try.f3 rfl rfl rfl rfl rfl rfl rfl ⟨rfl, rfl, rfl, rfl, rfl⟩ rfl rfl rfl rfl rfl (by kernel_rfl) Try.func3 (by kernel_rfl)
    (of_decide_eq_true (by kernel_rfl)) (by unfold Func.isWrapper; first | (rw [if_pos (by decide +kernel)]; kernel_rfl) | (rw [if_neg (by decide +kernel)]; exact ⟨rfl, rfl⟩))
    (fun os started H enc _ => lifted os started H enc)
/-- The statement. -/
theorem proved : Rows.EdgeTellsSaid := over
#print axioms proved
end Go.Proofs.Ytbkcjbknoljogaa.edgeTells
