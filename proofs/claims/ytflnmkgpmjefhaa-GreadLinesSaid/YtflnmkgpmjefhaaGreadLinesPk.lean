/- What the program tells of any line, as the first one and as an edge's, is what the document says. Conditions: none: every line, every number of vertices (of a line of more than 300 bytes the law asks only that the program reads graphs at all). -/
import Derived.Test.YtflnmkgpmjefhaaPk24
import Derived.Test.YtflnmkgpmjefhaaPk28
import Derived.Test.YtflnmkgpmjefhaaPk34
import Derived.Test.YtflnmkgpmjefhaaChecked
import Derived.Test.YtflnmkgpmjefhaaRows
import Derived.WalkKit
import Derived.ProofKit
import Derived.OpenShut
import Derived.ShutString
import Derived.ChangeOld
import Derived.Below
import Derived.Carry
namespace Go.Proofs.Ytflnmkgpmjefhaa.greadLines
open Go.ChangeShapes Go.WideShapes Go.ChangeAt Go.RowKit EdPure GrPure Gr
open Go.ChangeMaps (open_string shut_string)
/-- The edge's place, as the law goes on. -/
def LineSt (w : World) (X : Nat) (a b c : Int) (W : World) : Prop := Below w.heap.size w W ∧ ThreeAt X W (.int .i64 a) (.int .i64 b) (.int .i64 c)
theorem line_keep {w W W' : World} {X : Nat} {a b c : Int} (h : Hid (LineSt w X a b c W)) (hb : Below W.heap.size W W') :
    W'.cell? ⟨X, 0, none⟩ = some (.int .i64 a) ∧ W'.cell? ⟨X, 1, none⟩ = some (.int .i64 b) ∧ W'.cell? ⟨X, 2, none⟩ = some (.int .i64 c) ∧ Hid (LineSt w X a b c W') := by
  have h1 := h.out.1
  have ht := h.out.2.on hb h.out.2.lt
  have hc := ht
  obtain ⟨c0, c1, c2, -⟩ := hc
  exact ⟨c0, c1, c2, Lib.hid ⟨h1.trans (hb.mono h1.size), ht⟩⟩
set_option maxRecDepth 100000 in
set_option maxHeartbeats 2000000 in
theorem walk_list (s : ByteArray) (hs : s.size ≤ maxLen) (n : Int) (hn0 : -9223372036854775808 ≤ n) (hn1 : n ≤ 9223372036854775807) (w : World) :
    Calls Try.prog 3 #[.string s, .int .i64 n] w fun e w' => e = .returned (.bool true) ∧ Below w.heap.size w w' := by
  have HA := Lib.hid (fun w => awake_any w)
  by_cases h300 : 300 < s.size
  · have hm : s.size ≤ 9223372036854775807 := by unfold maxLen at hs; omega
    go_enter Try.func3, Try.ntmps3
    go_wp2_with fail
    refine (HA.out _).mono ?_
    rintro e w1 ⟨rfl, hb1⟩
    have HB := Lib.hid hb1
    clear hb1
    go_wp2
    go_ret
    exact ⟨rfl, HB.out⟩
  · have HP := Lib.hid (fun w => progHead_any s (by omega) w)
    have HE := Lib.hid (fun w => progEdge_any s (by omega) n hn0 hn1 w)
    have HRP := Lib.hid (fun w => refHead_any s (by omega) w)
    have HRE := Lib.hid (fun w => refEdge_any s (by omega) n hn0 hn1 w)
    generalize headN s.data.toList = h1 at *
    generalize headM s.data.toList = h2 at *
    generalize headE s.data.toList = h3 at *
    generalize edgeE s.data.toList n = h4 at *
    generalize edgeX s.data.toList n = x at *
    obtain ⟨x1, x2, x3⟩ := x
    unfold encE at HE
    simp only at HE HRE
    go_enter Try.func3, Try.ntmps3
    go_wp2_with fail
    refine (HP.out w).mono ?_
    rintro e w1 ⟨rfl, hb1⟩
    have HB1 := Lib.hid hb1
    clear hb1
    go_wp2_with fail
    refine (HE.out w1).mono ?_
    rintro e w2 ⟨rfl, hb2⟩
    have HB2 := Lib.hid (HB1.out.trans (hb2.mono HB1.out.size))
    clear hb2
    have HT : Hid (LineSt w w2.heap.size x1 x2 x3 (w2.alloc (.cells #[.int .i64 x1, .int .i64 x2, .int .i64 x3] 27))) := Lib.hid ⟨HB2.out.trans (((Below.refl _ _).alloc (Nat.le_refl _) _).mono HB2.out.size), ThreeAt.new _ _ _ _ _⟩
    go_upto_region 5 with fail
    generalize w2.alloc (.cells #[.int .i64 x1, .int .i64 x2, .int .i64 x3] 27) = W0 at *
    generalize w2.heap.size = X at *
    clear HB1 HB2 HP HE
    go_region_held3 (fun W => W.cell? ⟨X, 0, none⟩ = some (.int .i64 x1) ∧ W.cell? ⟨X, 1, none⟩ = some (.int .i64 x2) ∧ W.cell? ⟨X, 2, none⟩ = some (.int .i64 x3) ∧ Hid (LineSt w X x1 x2 x3 W))
      (first
        | exact line_keep HT ((Below.refl _ _).drew)
        | (go_split_ands; exact line_keep (by assumption) hb7)
        | go_keep)
      (first
        | (go_at_call 9; refine (HRP.out _).mono ?_; rintro e v1 ⟨rfl, hb7⟩)
        | (go_at_call 10; refine (HRE.out _).mono ?_; rintro e v1 ⟨rfl, hb7⟩)
        | (go_at_call 6; refine (HA.out _).mono ?_; rintro e v1 ⟨rfl, hb7⟩))
    all_goals go_wp2
    all_goals go_ret
    all_goals exact ⟨rfl, (by assumption : _ ∧ _ ∧ _ ∧ Hid (LineSt w X x1 x2 x3 _)).2.2.2.out.1⟩
theorem own : ownKnob Try.prog.godebug = none := by kernel_rfl
theorem laidOut : laidOutB Try.prog = true := by kernel_rfl
set_option maxRecDepth 100000 in
theorem lifted (os : Os) (started : os.Started) (H : Type) (enc : TypeId × Value → H) :
    ReturnsInHanded {} Try.checked os 3 .any (Rows.greadLinesSpec.pre6 enc Try.prog Try.f3 Rows.greadLinesRow.domain false) (Rows.greadLinesSpec.post enc Try.prog Try.f3 false true false false) := by
  refine returnsInHanded_of_change (C := Try.checked) own started (by kernel_rfl) Try.func3
    (ChangeSpec.witness6 (enc := enc) (C := Try.checked) false ⟨#[], #[.string ⟨#[]⟩, .int .i64 0], []⟩ 8 (by kernel_rfl) (by kernel_rfl) (by kernel_rfl) (by kernel_rfl)) ?_
  intro W base args ds gs before hval0 hW hcnd _
  have hval : ∀ (j : Nat) t v, Try.f3.params[j]? = some t → args[j]? = some v → Value.okWide Try.prog W .any base t v := hval0
  have hW' := hW
  obtain ⟨p, q, hA0, hV, rfl, hfz, hnd⟩ := hW
  have hA : DataW.TrodAll enc Try.prog W 0 (fun _ => true) true Try.f3.params.toList args.toList ds p := hA0
  rw [Try.params3] at hA hval
  obtain ⟨v0, vs0, d0, ds0, p0, q0, hargs, rfl, rfl, h0, r0⟩ := trodAll_cons hA
  obtain ⟨v1, vs1, d1, ds1, p1, q1, rfl, rfl, rfl, h1, r1⟩ := trodAll_cons r0
  obtain ⟨rfl, rfl, rfl⟩ := trodAll_nil r1
  obtain rfl : args = #[v0, v1] := by cases args; simp_all
  obtain ⟨rfl, rfl⟩ := trodVars_none hV
  obtain ⟨a0, rfl, rfl, rfl, w0⟩ := open_string Try.underlying9 (hval 0 9 v0 rfl rfl) h0
  obtain ⟨a1, rfl, rfl, rfl, w1⟩ := open_int Try.underlying3 (hval 1 3 v1 rfl rfl) h1
  clear hA0 hval0
  simp only [List.append_nil] at hW'
  refine (walk_list a0 w0 a1 (bounds_i64 w1).1 (bounds_i64 w1).2 W).mono fun e W' ⟨he, bel⟩ => ?_
  subst he
  exact ⟨_, rfl, _, _, _, [], [], [], hW', trodAll_mk1 (shut_bool Try.underlying4 _), (trodAll_cons_mk (shut_string Try.underlying9 w0) (trodAll_cons_mk (shut_int Try.underlying3 w1) trodAll_mk0)), rfl, bel.frame _, fun h => by cases h⟩
theorem over : Rows.greadLinesRow.holds Try.pinned (OpenSpec.ofChange Rows.greadLinesSpec) :=
  OpenClaim.holds_of_wide 3 Try.f3 rfl rfl rfl rfl rfl rfl rfl ⟨rfl, rfl, rfl, rfl, rfl⟩ rfl rfl rfl rfl rfl (by kernel_rfl) Try.func3 (by kernel_rfl)
    (of_decide_eq_true (by kernel_rfl)) (by unfold Func.isWrapper; first | (rw [if_pos (by decide +kernel)]; kernel_rfl) | (rw [if_neg (by decide +kernel)]; exact ⟨rfl, rfl⟩))
    (fun os started H enc _ => lifted os started H enc)
/-- The statement. -/
theorem proved : Rows.GreadLinesSaid := over
#print axioms proved
end Go.Proofs.Ytflnmkgpmjefhaa.greadLines
