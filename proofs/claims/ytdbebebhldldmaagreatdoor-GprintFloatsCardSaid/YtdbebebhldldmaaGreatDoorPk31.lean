/- Texts that the laws of this seat stand on, part 31. -/
import Derived.Test.YtdbebebhldldmaaGreatDoorPk30
import Derived.Test.YtdbebebhldldmaaGreatDoorPk10
import Derived.Deep.QuietTactic
import Derived.BigQuiet
import Derived.BigRegion
import Derived.Deep.RegionWith
import Derived.IntWalk
import Derived.StillTailTactics
import Derived.WalkMore
import Derived.Test.YtdbebebhldldmaaGreatDoorPk12
import Derived.Test.YtdbebebhldldmaaGreatDoorPk9
import Derived.Maps.AppendAt
import Derived.Deep.Cut
import Derived.Deep.CutRange
import Derived.Test.YtdbebebhldldmaaGreatDoorPk28
/- Contracts for the program's Head and Edge. -/
namespace Go.Proofs.YtdbebebhldldmaaGreatDoor.Gr
open Go.RowKit Go.ChangeShapes DecPure WordPure GrPure EdPure Str
theorem lay_size (l : List UInt8) : (⟨l.toArray⟩ : ByteArray).size = l.length := by
  show l.toArray.size = _
  simp
theorem row_two {g : Nat} {w : World} {y z : Int} {zs : List Int} (h : RowIs g w (zs.map (encInt .i64))) (e : zs = [y, z]) : w.cell? ⟨g, 0, none⟩ = some (.int .i64 y) ∧ w.cell? ⟨g, 1, none⟩ = some (.int .i64 z) := by
  subst e
  exact ⟨(h 0 (by simp)).1, (h 1 (by simp)).1⟩
theorem row_three {g : Nat} {w : World} {x y z : Int} {zs : List Int} (h : RowIs g w (zs.map (encInt .i64))) (e : zs = [x, y, z]) : w.cell? ⟨g, 0, none⟩ = some (.int .i64 x) ∧ w.cell? ⟨g, 1, none⟩ = some (.int .i64 y) ∧ w.cell? ⟨g, 2, none⟩ = some (.int .i64 z) := by
  subst e
  exact ⟨(h 0 (by simp)).1, (h 1 (by simp)).1, (h 2 (by simp)).1⟩
set_option maxHeartbeats 2000000 in
theorem progHead_any (s : ByteArray) (hs : s.size ≤ 100000000) (w : World) :
    Calls Tryz.prog 72 #[.string s] w fun e w' => e = .returned (.tuple #[.int .i64 (headN s.data.toList), .int .i64 (headM s.data.toList), .int .i64 (headE s.data.toList)]) ∧ Below w.heap.size w w' := by
  have HC : Hid (Calls Tryz.prog 93 #[.string s, .string ⟨#[103, 114, 97, 112, 104, 32]⟩] w fun e w' => e = .returned (.tuple #[.string ⟨(Lib.trimPrefix s.data.toList preW).toArray⟩, .bool (Lib.hasPrefix s.data.toList preW)]) ∧ w' = w) := Lib.hid (Tryz.strings_CutPrefix s ⟨#[103, 114, 97, 112, 104, 32]⟩ w)
  have hsz : (⟨(Lib.trimPrefix s.data.toList preW).toArray⟩ : ByteArray).size ≤ 100000000 := by
    rw [lay_size]
    have h1 := Lib.trimPrefix_le s.data.toList preW
    have h2 := Lib.size_eq s
    omega
  have HN : Hid (Calls Tryz.prog 94 #[.string ⟨(Lib.trimPrefix s.data.toList preW).toArray⟩, .int .i64 2] w fun e w' => NumsOut (Lib.trimPrefix s.data.toList preW) 2 e w' ∧ Below w.heap.size w w') := Lib.hid (numbers_any ⟨(Lib.trimPrefix s.data.toList preW).toArray⟩ hsz 2 (by omega) (by omega) w)
  have HNo : Hid (Lib.hasPrefix s.data.toList preW = false → headE s.data.toList = 2 ∧ headN s.data.toList = 0 ∧ headM s.data.toList = 0) := Lib.hid head_no
  have HFew : Hid (Lib.hasPrefix s.data.toList preW = true → numsB (Lib.trimPrefix s.data.toList preW) 2 = false → headE s.data.toList = 2 ∧ headN s.data.toList = 0 ∧ headM s.data.toList = 0) := Lib.hid head_few
  have HMany : Hid (Lib.hasPrefix s.data.toList preW = true → numsB (Lib.trimPrefix s.data.toList preW) 2 = true → ∃ y z : Int, (wordsL (Lib.trimPrefix s.data.toList preW)).map zW = [y, z] ∧
    ((belB y 4097 = true ∧ belB z 1048577 = true ∧ headE s.data.toList = 0 ∧ headN s.data.toList = y ∧ headM s.data.toList = z) ∨ ((belB y 4097 = false ∨ belB z 1048577 = false) ∧ headE s.data.toList = 3 ∧ headN s.data.toList = 0 ∧ headM s.data.toList = 0))) := Lib.hid head_many
  clear hsz
  unfold NumsOut at HN
  generalize headE s.data.toList = hE at *
  generalize headN s.data.toList = hN at *
  generalize headM s.data.toList = hM at *
  generalize Lib.hasPrefix s.data.toList preW = hp at *
  generalize Lib.trimPrefix s.data.toList preW = r at *
  generalize (wordsL r).map zW = zs at *
  generalize numsB r 2 = nb at *
  cases hp with
  | false =>
    obtain ⟨rfl, rfl, rfl⟩ := HNo.out rfl
    go_enter Tryz.func72, Tryz.ntmps72
    go_wp2_with fail
    refine HC.out.mono ?_
    rintro e w1 ⟨rfl, rfl⟩
    go_wp2_with fail
    refine HN.out.mono ?_
    rintro e w2 ⟨⟨rfl, g, rfl, -⟩ | ⟨rfl, rfl⟩, hb1⟩
    · have HB1 := Lib.hid hb1
      clear hb1
      go_wp2
      go_ret3
      exact ⟨rfl, HB1.out⟩
    · have HB1 := Lib.hid hb1
      clear hb1
      go_wp2
      go_ret3
      exact ⟨rfl, HB1.out⟩
  | true =>
    cases nb with
    | false =>
      obtain ⟨rfl, rfl, rfl⟩ := HFew.out rfl rfl
      go_enter Tryz.func72, Tryz.ntmps72
      go_wp2_with fail
      refine HC.out.mono ?_
      rintro e w1 ⟨rfl, rfl⟩
      go_wp2_with fail
      refine HN.out.mono ?_
      rintro e w2 ⟨⟨h0, -⟩ | ⟨-, rfl⟩, hb1⟩
      · cases h0
      have HB1 := Lib.hid hb1
      clear hb1
      go_wp2
      go_ret3
      exact ⟨rfl, HB1.out⟩
    | true =>
      obtain ⟨y, z, hz, h⟩ := HMany.out rfl rfl
      have HB := Lib.hid (fun n m w => below_any n m w)
      go_enter Tryz.func72, Tryz.ntmps72
      go_wp2_with fail
      refine HC.out.mono ?_
      rintro e w1 ⟨rfl, rfl⟩
      go_wp2_with fail
      refine HN.out.mono ?_
      rintro e w2 ⟨h5, hb1⟩
      obtain ⟨-, g, rfl, hr⟩ := h5.resolve_right (fun h => by cases h.1)
      have HB1 := Lib.hid hb1
      obtain ⟨c0, c1⟩ := row_two hr hz
      have lt := World.block_lt_of_cell? w2 _ c0
      clear hb1 hr HMany HFew HNo HN HC hz
      go_wp2_with fail
      refine (HB.out y 4097 _).mono ?_
      rintro e w3 ⟨rfl, rfl⟩
      rcases h with ⟨b1, b2, rfl, rfl, rfl⟩ | ⟨hbb, rfl, rfl, rfl⟩
      · rw [b1]
        go_wp2_with fail
        refine (HB.out _ 1048577 _).mono ?_
        rintro e w3 ⟨rfl, rfl⟩
        rw [b2]
        go_wp2
        go_quiet (fail)
        go_wp2
        go_ret3
        exact ⟨rfl, below_drewN HB1.out _⟩
      · cases hy : belB y 4097 with
        | false =>
          clear hbb
          go_wp2
          go_ret3
          exact ⟨rfl, HB1.out⟩
        | true =>
          rcases hbb with h0 | b2
          · rw [hy] at h0; cases h0
          go_wp2_with fail
          refine (HB.out _ 1048577 _).mono ?_
          rintro e w3 ⟨rfl, rfl⟩
          rw [b2]
          go_wp2
          go_ret3
          exact ⟨rfl, HB1.out⟩
set_option maxRecDepth 100000 in
set_option maxHeartbeats 2000000 in
theorem progEdge_any (s : ByteArray) (hs : s.size ≤ 100000000) (n : Int) (_hn0 : -9223372036854775808 ≤ n) (_hn1 : n ≤ 9223372036854775807) (w : World) :
    Calls Tryz.prog 75 #[.string s, .int .i64 n] w fun e w' => e = .returned (.tuple #[encE (edgeX s.data.toList n), .int .i64 (edgeE s.data.toList n)]) ∧ Below w.heap.size w w' := by
  have HB0 : Hid (Below w.heap.size w (w.alloc (.cells #[.int .i64 0, .int .i64 0, .int .i64 0] 51))) := Lib.hid ((Below.refl _ _).alloc (Nat.le_refl _) _)
  have HT0 : Hid (ThreeAt w.heap.size (w.alloc (.cells #[.int .i64 0, .int .i64 0, .int .i64 0] 51)) (.int .i64 0) (.int .i64 0) (.int .i64 0)) := Lib.hid (ThreeAt.new _ _ _ _ _)
  have HN : Hid (∀ w, Calls Tryz.prog 94 #[.string s, .int .i64 3] w fun e w' => NumsOut s.data.toList 3 e w' ∧ Below w.heap.size w w') := Lib.hid (fun w => numbers_any s hs 3 (by omega) (by omega) w)
  have HFew : Hid (numsB s.data.toList 3 = false → edgeE s.data.toList n = 2 ∧ edgeX s.data.toList n = (0, 0, 0)) := Lib.hid fun h => edge_few h n
  have HMany : Hid (numsB s.data.toList 3 = true → ∃ x y z : Int, (wordsL s.data.toList).map zW = [x, y, z] ∧
    ((belB x n = true ∧ belB y n = true ∧ belB z 2147483649 = true ∧ edgeE s.data.toList n = 0 ∧ edgeX s.data.toList n = (x, y, z)) ∨ ((belB x n = false ∨ belB y n = false) ∧ edgeE s.data.toList n = 4 ∧ edgeX s.data.toList n = (0, 0, 0)) ∨
      (belB x n = true ∧ belB y n = true ∧ belB z 2147483649 = false ∧ edgeE s.data.toList n = 5 ∧ edgeX s.data.toList n = (0, 0, 0)))) := Lib.hid fun h => edge_many h n
  have FIN : Hid (∀ (W : World) (y1 y2 y3 : Value), Below w.heap.size w W → ThreeAt w.heap.size W y1 y2 y3 → ∀ x1 x2 x3, Hid (Below w.heap.size w (((W.setCell ⟨w.heap.size, 0, none⟩ x1).setCell ⟨w.heap.size, 1, none⟩ x2).setCell ⟨w.heap.size, 2, none⟩ x3) ∧
      ThreeAt w.heap.size (((W.setCell ⟨w.heap.size, 0, none⟩ x1).setCell ⟨w.heap.size, 1, none⟩ x2).setCell ⟨w.heap.size, 2, none⟩ x3) x1 x2 x3)) := Lib.hid fun W _ _ _ hb hq x1 x2 x3 =>
    Lib.hid ⟨((hb.setCell (p := ⟨w.heap.size, 0, none⟩) (Nat.le_refl _) x1).setCell (p := ⟨w.heap.size, 1, none⟩) (Nat.le_refl _) x2).setCell (p := ⟨w.heap.size, 2, none⟩) (Nat.le_refl _) x3, hq.set x1 x2 x3⟩
  have HB := Lib.hid (fun n m w => below_any n m w)
  unfold NumsOut at HN
  unfold encE
  generalize edgeE s.data.toList n = hE at *
  generalize edgeX s.data.toList n = hX at *
  generalize (wordsL s.data.toList).map zW = zs at *
  generalize numsB s.data.toList 3 = nb at *
  cases nb with
  | false =>
    obtain ⟨rfl, rfl⟩ := HFew.out rfl
    go_enter Tryz.func75, Tryz.ntmps75
    go_wp2_with fail
    generalize w.alloc (.cells #[.int .i64 0, .int .i64 0, .int .i64 0] 51) = W0 at *
    refine (HN.out W0).mono ?_
    rintro e w2 ⟨h5, hb1⟩
    obtain ⟨-, rfl⟩ := h5.resolve_left (fun h => by cases h.1)
    have HB2 := Lib.hid (HB0.out.trans (hb1.mono HB0.out.size))
    have HT2 := Lib.hid (HT0.out.on hb1 HT0.out.lt)
    obtain ⟨r0, r1, r2, f0, f1, f2⟩ := HT2.out
    have rl := HT2.out.lt
    clear hb1 HT0 HB0
    have HF := FIN.out w2 _ _ _ HB2.out HT2.out (.int .i64 0) (.int .i64 0) (.int .i64 0)
    clear HB2 HT2 FIN
    go_wp2
    obtain ⟨d0, d1, d2, -, -, -⟩ := HF.out.2
    exact bodyPost_ret (v := .tuple #[.agg #[.int .i64 0, .int .i64 0, .int .i64 0], .int .i64 2]) (by simp [results, Tryz.results75, go_sem, d0, d1, d2]) rfl ⟨rfl, HF.out.1⟩
  | true =>
    obtain ⟨x, y, z, hz, h⟩ := HMany.out rfl
    go_enter Tryz.func75, Tryz.ntmps75
    go_wp2_with fail
    generalize w.alloc (.cells #[.int .i64 0, .int .i64 0, .int .i64 0] 51) = W0 at *
    refine (HN.out W0).mono ?_
    rintro e w2 ⟨h5, hb1⟩
    obtain ⟨-, g, rfl, hr⟩ := h5.resolve_right (fun h => by cases h.1)
    have HB2 := Lib.hid (HB0.out.trans (hb1.mono HB0.out.size))
    have HT2 := Lib.hid (HT0.out.on hb1 HT0.out.lt)
    obtain ⟨r0, r1, r2, f0, f1, f2⟩ := HT2.out
    have rl := HT2.out.lt
    obtain ⟨c0, c1, c2⟩ := row_three hr hz
    have lt := World.block_lt_of_cell? w2 _ c0
    clear hb1 HT0 HB0 hr hz HMany HFew HN h5
    go_wp2_with fail
    refine (HB.out x n _).mono ?_
    rintro e w3 ⟨rfl, rfl⟩
    rcases h with ⟨b1, b2, b3, rfl, rfl⟩ | ⟨hbb, rfl, rfl⟩ | ⟨b1, b2, b3, rfl, rfl⟩
    · rw [b1]
      go_wp2_with fail
      refine (HB.out y n _).mono ?_
      rintro e w3 ⟨rfl, rfl⟩
      rw [b2]
      go_wp2_with fail
      refine (HB.out z 2147483649 _).mono ?_
      rintro e w3 ⟨rfl, rfl⟩
      rw [b3]
      go_wp2_with fail
      have HB3 := Lib.hid (below_drewN HB2.out 1)
      have HT3 : Hid (ThreeAt w.heap.size (w2.drewN 1) _ _ _) := Lib.hid (HT2.out.on (below_drewN (Below.refl w2.heap.size w2) 1) HT2.out.lt)
      have HC3 : Hid ((w2.drewN 1).cell? ⟨g, 0, none⟩ = some (.int .i64 x) ∧ (w2.drewN 1).cell? ⟨g, 1, none⟩ = some (.int .i64 y) ∧ (w2.drewN 1).cell? ⟨g, 2, none⟩ = some (.int .i64 z) ∧ g < (w2.drewN 1).heap.size) := Lib.hid ⟨c0, c1, c2, lt⟩
      refine wp_region_still_tail 10 (by kernel_rfl) (by kernel_rfl) ?_
      change wpStill _ _ (World.drewN w2 1) _ _ _
      change wpStill _ _ _ (fun a' => wpList _ _ _ _ _ (World.drewN w2 1)) _ _
      generalize World.drewN w2 1 = V at *
      clear c0 c1 c2 lt r0 r1 r2 f0 f1 f2 rl
      obtain ⟨r0, r1, r2, f0, f1, f2⟩ := HT3.out
      have rl := HT3.out.lt
      obtain ⟨c0, c1, c2, lt⟩ := HC3.out
      have HF := FIN.out V _ _ _ HB3.out HT3.out (.int .i64 x) (.int .i64 y) (.int .i64 z)
      simp only [List.take_succ_cons, List.take_zero, List.drop_succ_cons, List.drop_zero]
      repeat still_step
      refine wpStill_nil ?_
      clear HB2 HT2 HB3 HT3 HC3 FIN
      go_wp2
      obtain ⟨d0, d1, d2, -, -, -⟩ := HF.out.2
      exact bodyPost_ret (v := .tuple #[.agg #[.int .i64 x, .int .i64 y, .int .i64 z], .int .i64 0]) (by simp [results, Tryz.results75, go_sem, d0, d1, d2]) rfl ⟨rfl, HF.out.1⟩
    · cases hy : belB x n with
      | false =>
        clear hbb
        have HF := FIN.out w2 _ _ _ HB2.out HT2.out (.int .i64 0) (.int .i64 0) (.int .i64 0)
        clear HB2 HT2 FIN
        go_wp2
        obtain ⟨d0, d1, d2, -, -, -⟩ := HF.out.2
        exact bodyPost_ret (v := .tuple #[.agg #[.int .i64 0, .int .i64 0, .int .i64 0], .int .i64 4]) (by simp [results, Tryz.results75, go_sem, d0, d1, d2]) rfl ⟨rfl, HF.out.1⟩
      | true =>
        rcases hbb with h0 | b2
        · rw [hy] at h0; cases h0
        go_wp2_with fail
        refine (HB.out y n _).mono ?_
        rintro e w3 ⟨rfl, rfl⟩
        rw [b2]
        have HF := FIN.out w2 _ _ _ HB2.out HT2.out (.int .i64 0) (.int .i64 0) (.int .i64 0)
        clear HB2 HT2 FIN
        go_wp2
        obtain ⟨d0, d1, d2, -, -, -⟩ := HF.out.2
        exact bodyPost_ret (v := .tuple #[.agg #[.int .i64 0, .int .i64 0, .int .i64 0], .int .i64 4]) (by simp [results, Tryz.results75, go_sem, d0, d1, d2]) rfl ⟨rfl, HF.out.1⟩
    · rw [b1]
      go_wp2_with fail
      refine (HB.out y n _).mono ?_
      rintro e w3 ⟨rfl, rfl⟩
      rw [b2]
      go_wp2_with fail
      refine (HB.out z 2147483649 _).mono ?_
      rintro e w3 ⟨rfl, rfl⟩
      rw [b3]
      have HF := FIN.out w2 _ _ _ HB2.out HT2.out (.int .i64 0) (.int .i64 0) (.int .i64 0)
      clear HB2 HT2 FIN
      go_wp2
      obtain ⟨d0, d1, d2, -, -, -⟩ := HF.out.2
      exact bodyPost_ret (v := .tuple #[.agg #[.int .i64 0, .int .i64 0, .int .i64 0], .int .i64 5]) (by simp [results, Tryz.results75, go_sem, d0, d1, d2]) rfl ⟨rfl, HF.out.1⟩
end Go.Proofs.YtdbebebhldldmaaGreatDoor.Gr
/- What a call turns and what it leaves: 'Turn O': nothing but the blocks of O is otherwise; rows and lists over it. No function of the program is named. -/
namespace Go.Proofs.YtdbebebhldldmaaGreatDoor
open Go.RowKit Go.ChangeShapes
/-- Nothing but the blocks of O is otherwise; new ones may lie behind. -/
def Turn (O : Nat → Prop) (w w' : World) : Prop :=
  w'.os = w.os ∧ w'.tape = w.tape ∧ w'.output = w.output ∧ w.heap.size ≤ w'.heap.size ∧ ∀ k, k < w.heap.size → ¬ O k → w'.heap[k]? = w.heap[k]?
theorem Turn.refl (O : Nat → Prop) (w : World) : Turn O w w := ⟨rfl, rfl, rfl, Nat.le_refl _, fun _ _ _ => rfl⟩
theorem Turn.trans {O O' : Nat → Prop} {a b c : World} (h : Turn O a b) (k : Turn O' b c) (ho : ∀ x, O' x → O x ∨ a.heap.size ≤ x) : Turn O a c := by
  obtain ⟨h1, h2, h3, h4, h5⟩ := h
  obtain ⟨k1, k2, k3, k4, k5⟩ := k
  refine ⟨k1.trans h1, k2.trans h2, k3.trans h3, Nat.le_trans h4 k4, fun i hi e => (k5 i (Nat.lt_of_lt_of_le hi h4) (fun e2 => ?_)).trans (h5 i hi e)⟩
  rcases ho i e2 with e3 | e3
  · exact e e3
  · omega
theorem Turn.grown {O : Nat → Prop} {w w' : World} {row : Option Nat} (h : w.grownBy w' row) (ho : ∀ k, row = some k → O k) : Turn O w w' :=
  ⟨h.os, h.tape, h.output, h.size, fun k hk e => h.block k hk (fun e2 => e (ho k e2.symm))⟩
theorem Turn.cell {O : Nat → Prop} {b : Nat} (w : World) (i : Nat) (v : Value) (ho : O b) : Turn O w (w.setCell ⟨b, i, none⟩ v) :=
  ⟨rfl, rfl, rfl, by simp, fun k _ hk => Below.heap_setCell _ _ _ k (fun e => hk (by rw [show k = b from e]; exact ho))⟩
theorem Turn.ofBelow {O : Nat → Prop} {w w' : World} (h : Below w.heap.size w w') : Turn O w w' := ⟨h.os, h.tape, h.output, h.size, fun k hk _ => h.block k hk⟩
theorem Turn.drawn {O : Nat → Prop} {w w' : World} (h : Turn O w w') (k : Nat) : Turn O w (w'.drewN k) := h
theorem Turn.below {O : Nat → Prop} {M : Nat} {w w' : World} (h : Turn O w w') (hs : M ≤ w.heap.size) (ho : ∀ k, O k → M ≤ k) : Below M w w' := by
  obtain ⟨h1, h2, h3, h4, h5⟩ := h
  exact ⟨h1, h2, h3, h4, fun k hk => h5 k (by omega) (fun e => by have := ho k e; omega)⟩
theorem Turn.size {O : Nat → Prop} {w w' : World} (h : Turn O w w') : w.heap.size ≤ w'.heap.size := h.2.2.2.1
/-- Four cells of one block. -/
def FourAt (N : Nat) (w : World) (a b c d : Value) : Prop := RowIs N w [a, b, c, d]
theorem FourAt.cells {N : Nat} {w : World} {a b c d : Value} (h : FourAt N w a b c d) :
    (w.cell? ⟨N, 0, none⟩ = some a ∧ w.cell? ⟨N, 1, none⟩ = some b ∧ w.cell? ⟨N, 2, none⟩ = some c ∧ w.cell? ⟨N, 3, none⟩ = some d) ∧
    (w.frozen? ⟨N, 0, none⟩ = false ∧ w.frozen? ⟨N, 1, none⟩ = false ∧ w.frozen? ⟨N, 2, none⟩ = false ∧ w.frozen? ⟨N, 3, none⟩ = false) :=
  ⟨⟨(h 0 (by simp)).1, (h 1 (by simp)).1, (h 2 (by simp)).1, (h 3 (by simp)).1⟩, (h 0 (by simp)).2, (h 1 (by simp)).2, (h 2 (by simp)).2, (h 3 (by simp)).2⟩
theorem FourAt.lt {N : Nat} {w : World} {a b c d : Value} (h : FourAt N w a b c d) : N < w.heap.size := RowIs.lt h (by simp)
theorem FourAt.new (w : World) (a b c d : Value) (T : TypeId) : FourAt w.heap.size (w.alloc (.cells #[a, b, c, d] T)) a b c d := by
  intro i hi
  match i, hi with
  | 0, _ => exact ⟨by simp, by simp⟩
  | 1, _ => exact ⟨by simp, by simp⟩
  | 2, _ => exact ⟨by simp, by simp⟩
  | 3, _ => exact ⟨by simp, by simp⟩
theorem row_same {b : Nat} {w w' : World} {vs : List Value} (h : RowIs b w vs) (hk : w'.heap[b]? = w.heap[b]?) : RowIs b w' vs :=
  fun i hi => ⟨(World.cell?_of_block hk).trans (h i hi).1, (World.frozen?_of_block hk).trans (h i hi).2⟩
theorem owns_same {w w' : World} {B : Nat} {e : TypeId} {size n : Nat} {v : Value} {xs : List Value} (h : w.ownsRow B e size v n xs) (hk : ∀ k, v.ownBlock = some k → w'.heap[k]? = w.heap[k]?) : w'.ownsRow B e size v n xs := by
  obtain ⟨h1, h2 | ⟨g, cap, cur, rfl, h3, h4, h5⟩⟩ := h
  · exact ⟨h1, Or.inl h2⟩
  · exact ⟨h1, Or.inr ⟨g, cap, cur, rfl, h3, (hk g rfl).trans h4, h5⟩⟩
/-- Where there are cells they lie in a block of their own. -/
theorem owns_slice {w : World} {B n : Nat} {e : TypeId} {size : Nat} {v : Value} {xs : List Value} (h : w.ownsRow B e size v n xs) (hn : 0 < n) : ∃ g cap, v = .slice (some ⟨g, 0, none⟩) n cap ∧ B ≤ g ∧ g < w.heap.size := by
  have hl := h.lt
  obtain ⟨h1, ⟨h2, h3⟩ | ⟨g, cap, cur, rfl, h3, h4, h5⟩⟩ := h
  · omega
  · exact ⟨g, cap, rfl, h3, (hl g rfl).2⟩
theorem owns_any {w : World} {B n : Nat} {e : TypeId} {size : Nat} {v : Value} {xs : List Value} (h : w.ownsRow B e size v n xs) : ∃ q cap, v = .slice q n cap := by
  obtain ⟨h1, ⟨h2, h3⟩ | ⟨g, cap, cur, rfl, h3, h4, h5⟩⟩ := h
  · exact ⟨none, 0, by rw [h2, h3]⟩
  · exact ⟨_, cap, rfl⟩
theorem four_set {b : Nat} {w : World} {v0 v1 v2 v3 : Value} (h : FourAt b w v0 v1 v2 v3) (u : Value) :
    FourAt b (w.setCell ⟨b, 1, none⟩ u) v0 u v2 v3 ∧ FourAt b (w.setCell ⟨b, 2, none⟩ u) v0 v1 u v3 ∧ FourAt b (w.setCell ⟨b, 3, none⟩ u) v0 v1 v2 u :=
  ⟨RowIs.set h (k := 1) (by simp) u, RowIs.set h (k := 2) (by simp) u, RowIs.set h (k := 3) (by simp) u⟩
theorem cell_other {w : World} {b i k : Nat} {v : Value} (h : k ≠ b) : (w.setCell ⟨b, i, none⟩ v).heap[k]? = w.heap[k]? := Below.heap_setCell _ _ _ k (fun e => h e)
theorem reads_same {α : Type} {enc : α → Value} {w w' : World} {q : Option Addr} {l : List α} (h : ReadsL enc w.heap.size w q l) (hk : ∀ z, q = some z → w'.heap[z.block]? = w.heap[z.block]?) (hs : w.heap.size ≤ w'.heap.size) : ReadsL enc w'.heap.size w' q l := by
  rcases h with h | ⟨b, off, rfl, hN, hc⟩
  · exact Or.inl h
  · exact Or.inr ⟨b, off, rfl, Nat.lt_of_lt_of_le hN hs, fun i hi => (World.cell?_of_block (a := ⟨b, off + i, none⟩) (hk ⟨b, off, none⟩ rfl)).trans (hc i hi)⟩
theorem reads_news {α : Type} {enc : α → Value} {N : Nat} {w : World} {ad : Addr} {l : List α} (h : ReadsL enc N w (some ad) l) : ∀ j u, (l.map enc)[j]? = some u → w.cell? (ad.add j) = some u := by
  intro j u hj
  rcases h with h | ⟨b, off, e, -, hc⟩
  · subst h; simp at hj
  · cases e
    obtain ⟨hjl, rfl⟩ := List.getElem?_eq_some_iff.1 hj
    rw [List.getElem_map, addr_add]
    exact hc j (by simpa using hjl)
theorem owns_apart {w : World} {B B' n n' s s' : Nat} {e e' : TypeId} {v v' : Value} {xs xs' : List Value} (h : w.ownsRow B e s v n xs) (h' : w.ownsRow B' e' s' v' n' xs') (hne : e ≠ e') : ∀ k, v.ownBlock = some k → v'.ownBlock ≠ some k := by
  intro k hk hk'
  obtain ⟨-, ⟨rfl, -⟩ | ⟨g, cap, cur, rfl, -, hg, -⟩⟩ := h
  · simp [Value.ownBlock] at hk
  obtain ⟨-, ⟨rfl, -⟩ | ⟨g', cap', cur', rfl, -, hg', -⟩⟩ := h'
  · simp [Value.ownBlock] at hk'
  simp [Value.ownBlock] at hk hk'
  subst hk
  subst hk'
  rw [hg] at hg'
  simp at hg'
  exact hne hg'.2
theorem info_int : ∃ i, (Tryz.prog.info? 3) = some i ∧ i.zero = some (.int .i64 0) ∧ i.size = 1 ∧ i.bytes = 8 := info_of (by kernel_rfl)
/-- What a call that gathers numbers answers. -/
def ListOut (l : List Int) (w w' : World) (v : Value) : Prop := ∃ q c, v = .slice q l.length c ∧ ReadsL encZ w'.heap.size w' q l ∧ Below w.heap.size w w'
end Go.Proofs.YtdbebebhldldmaaGreatDoor
/- Contracts: a text that is read line by line; what leaves by a panic with its number. -/
namespace Go.Proofs.YtdbebebhldldmaaGreatDoor.Gr
open Go.RowKit Go.ChangeShapes DecPure WordPure GrPure EdPure Str
def stopV (E K : Int) : Value := .iface 92 (.agg #[.int .i64 E, .int .i64 K])
theorem check_ok (p : Option Addr) (w : World) :
    Calls Tryz.prog 74 #[.pointer p, .int .i64 0] w fun e w' => e = .returned (.tuple #[]) ∧ w' = w := by
  go_enter Tryz.func74, Tryz.ntmps74
  go_wp2
  go_end0
  exact ⟨rfl, rfl⟩
theorem check_bad (T : Nat) (E K : Int) (hE : E ≠ 0) (w : World) (h : w.cell? ⟨T, 1, none⟩ = some (.int .i64 K)) :
    Calls Tryz.prog 74 #[.pointer (some ⟨T, 0, none⟩), .int .i64 E] w fun e w' => e = .panicked [{ v := stopV E K, recovered := false }] ∧ w' = w := by
  have t : (E != 0) = true := by simpa using hE
  have lt := World.block_lt_of_cell? w _ h
  clear hE
  go_enter Tryz.func74, Tryz.ntmps74
  go_wp2
  exact ⟨rfl, rfl, rfl⟩
theorem turn_two {T : Nat} {w w1 : World} (hb : Below w.heap.size w w1) (u v : Value) : Turn (fun b => b = T) w ((w1.setCell ⟨T, 0, none⟩ u).setCell ⟨T, 1, none⟩ v) :=
  ((Turn.ofBelow (O := fun b => b = T) hb).trans (Turn.cell (O := fun b => b = T) w1 0 u rfl) (fun _ h => Or.inl h)).trans (Turn.cell (O := fun b => b = T) _ 1 v rfl) (fun _ h => Or.inl h)
def NextOut (T : Nat) (s : ByteArray) (k : Nat) (w : World) (e : Ending) (w' : World) : Prop :=
  Turn (fun b => b = T) w w' ∧ ((NoC 10 s.data.toList ∧ e = .panicked [{ v := stopV 2 ((k : Int) + 1), recovered := false }]) ∨
    (∃ P R : ByteArray, s.data.toList = P.data.toList ++ 10 :: R.data.toList ∧ NoC 10 P.data.toList ∧ e = .returned (.string P) ∧ TwoAt T w' (.string R) (.int .i64 ((k : Int) + 1))))
set_option maxHeartbeats 1000000 in
theorem next_any (T : Nat) (s : ByteArray) (hs : s.size ≤ 100000000) (k : Nat) (hk : k ≤ 1000000000) (w : World) (hT : TwoAt T w (.string s) (.int .i64 (k : Int))) :
    Calls Tryz.prog 73 #[.pointer (some ⟨T, 0, none⟩)] w fun e w' => NextOut T s k w e w' := by
  have HC := Lib.hid (cut_any s (by omega) w)
  have HT := Lib.hid hT
  have i0 : (0 : Int) ≤ (k : Int) := by omega
  have i1 : (k : Int) ≤ 1000000000 := by omega
  have lt := hT.lt
  obtain ⟨c0, c1, f0, f1⟩ := hT
  go_enter Tryz.func73, Tryz.ntmps73
  go_wp2_with fail
  refine HC.out.mono ?_
  rintro e w1 ⟨h, hb1⟩
  have HT1 := Lib.hid (HT.out.on hb1 HT.out.lt)
  have HB1 := Lib.hid hb1
  clear hb1 HC c0 c1 f0 f1 lt HT
  obtain ⟨c0, c1, f0, f1⟩ := HT1.out
  have lt := HT1.out.lt
  rcases h with ⟨h1, rfl⟩ | ⟨P, R, h1, h2, rfl⟩
  · have H1 := Lib.hid h1
    have HX := Lib.hid (HT1.out.set (.string ⟨#[]⟩) (.int .i64 ((k : Int) + 1)))
    have HU := Lib.hid (turn_two (T := T) HB1.out (.string ⟨#[]⟩) (.int .i64 ((k : Int) + 1)))
    clear h1 HT1 HB1
    go_wp2_with fail
    refine (check_bad T 2 ((k : Int) + 1) (by decide) _ HX.out.2.1).mono ?_
    rintro e w2 ⟨rfl, rfl⟩
    go_wp2
    exact ⟨rfl, HU.out, Or.inl ⟨H1.out, rfl⟩⟩
  · have H1 := Lib.hid h1
    have H2 := Lib.hid h2
    have HX := Lib.hid (HT1.out.set (.string R) (.int .i64 ((k : Int) + 1)))
    have HU := Lib.hid (turn_two (T := T) HB1.out (.string R) (.int .i64 ((k : Int) + 1)))
    clear h1 h2 HT1 HB1
    go_wp2
    go_ret
    exact ⟨HU.out, Or.inr ⟨P, R, H1.out, H2.out, rfl, HX.out⟩⟩
theorem end_ok (T : Nat) (s : ByteArray) (h0 : s.data.toList = []) (v : Value) (w : World) (hT : TwoAt T w (.string s) v) :
    Calls Tryz.prog 76 #[.pointer (some ⟨T, 0, none⟩)] w fun e w' => e = .returned (.tuple #[]) ∧ w' = w := by
  have t := empty_yes h0
  have lt := hT.lt
  obtain ⟨c0, c1, f0, f1⟩ := hT
  clear h0
  go_enter Tryz.func76, Tryz.ntmps76
  go_wp2
  go_end0
  exact ⟨rfl, rfl⟩
theorem end_bad (T : Nat) (s : ByteArray) (h0 : s.data.toList ≠ []) (k : Nat) (hk : k ≤ 1000000000) (w : World) (hT : TwoAt T w (.string s) (.int .i64 (k : Int))) :
    Calls Tryz.prog 76 #[.pointer (some ⟨T, 0, none⟩)] w fun e w' => e = .panicked [{ v := stopV 2 ((k : Int) + 1), recovered := false }] ∧ Turn (fun b => b = T) w w' := by
  have t := empty_no h0
  have lt := hT.lt
  have i0 : (0 : Int) ≤ (k : Int) := by omega
  have i1 : (k : Int) ≤ 1000000000 := by omega
  obtain ⟨c0, c1, f0, f1⟩ := hT
  have hX : (w.setCell ⟨T, 1, none⟩ (.int .i64 ((k : Int) + 1))).cell? ⟨T, 1, none⟩ = some (.int .i64 ((k : Int) + 1)) := World.cell?_setCell_same _ _ _ c1
  have HX := Lib.hid hX
  have HU := Lib.hid (Turn.cell (O := fun b => b = T) w 1 (.int .i64 ((k : Int) + 1)) (b := T) rfl)
  clear h0 hX
  go_enter Tryz.func76, Tryz.ntmps76
  go_wp2_with fail
  refine (check_bad T 2 ((k : Int) + 1) (by decide) _ HX.out).mono ?_
  rintro e w2 ⟨rfl, rfl⟩
  go_wp2
  exact ⟨rfl, rfl, HU.out⟩
end Go.Proofs.YtdbebebhldldmaaGreatDoor.Gr
