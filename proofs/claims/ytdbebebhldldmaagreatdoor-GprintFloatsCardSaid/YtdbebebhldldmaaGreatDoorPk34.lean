/- Texts that the laws of this seat stand on, part 34. -/
import Derived.Test.YtdbebebhldldmaaGreatDoorPk9
import Derived.Deep.RegionHeld3
import Derived.Test.YtdbebebhldldmaaGreatDoorPk33
import Derived.Test.YtdbebebhldldmaaGreatDoorPk10
/- A drawn region whose operations may come up in many orders, gone over by what is done, not by the order: what is left of it as a letter (G), the frame as a function of what was made (F). No function of the program is named. -/
namespace Go.Proofs.YtdbebebhldldmaaGreatDoor
open Go.RowKit Go.ChangeShapes
theorem dag_of {P : Program} {md : Region.Mode} {ops : Array Oper} {Q : Exit → Act → World → Prop} {S : World → Prop} {n : Nat} {d : Array Bool} {a : Act} {w : World}
    (h : ∀ G : Nat → Array Bool → Act → World → Prop, (∀ n d a w, wpAnyH P md ops Q S n d a w → G n d a w) → (∀ n d a w, G n d a w → wpAnyH P md ops Q S n d a w) → G n d a w) : wpAnyH P md ops Q S n d a w :=
  h (fun n d a w => wpAnyH P md ops Q S n d a w) (fun _ _ _ _ h => h) (fun _ _ _ _ h => h)
/-- The same, with each operation's step as a letter (T), so that a call's step is walked once, whatever was laid so far. -/
theorem dag_of2 {P : Program} {md : Region.Mode} {ops : Array Oper} {Q : Exit → Act → World → Prop} {S : World → Prop} {n : Nat} {d : Array Bool} {a : Act} {w : World}
    (h : ∀ (G : Nat → Array Bool → Act → World → Prop) (T : Nat → Act → World → (Act → World → Prop) → Prop), (∀ n d a w, wpAnyH P md ops Q S n d a w → G n d a w) → (∀ n d a w, G n d a w → wpAnyH P md ops Q S n d a w) →
      (∀ i o, ops[i]? = some o → ∀ a w K, (if Region.wanted o (yielded ops a.tmps) = true then Oper.wp P o a w K Q else K (a.put o.dst undef) w) ↔ T i a w K) → G n d a w) : wpAnyH P md ops Q S n d a w :=
  h (fun n d a w => wpAnyH P md ops Q S n d a w) (fun i a w K => ∀ o, ops[i]? = some o → if Region.wanted o (yielded ops a.tmps) = true then Oper.wp P o a w K Q else K (a.put o.dst undef) w) (fun _ _ _ _ h => h) (fun _ _ _ _ h => h)
    (fun i o ho a w K => ⟨fun h o' ho' => by rw [ho] at ho'; obtain rfl := Option.some.inj ho'; exact h, fun h => h o ho⟩)
/-- An operation is taken first; where its value goes is told as it stands (else each step holds the whole list of operations in its 'dst'). -/
theorem dag_take {P : Program} {md : Region.Mode} {ops : Array Oper} {Q : Exit → Act → World → Prop} {S : World → Prop} {i d : Nat} {oi : Oper} {v : Value} {fuel : Nat} {listed : Array Bool} {a : Act} {w : World} (hi : ops[i]? = some oi) (hd : oi.dst = some d)
    (hs : Region.noSelect ops = true) (hf : Region.free md ops listed i = true) (hr : (Region.ready md ops listed).contains i = true)
    (hQ : ∀ c a w, Q (.panic c) (a.put oi.dst v) w → Q (.panic c) a w) (hy : YieldsIf P ops S oi v a) (hS : S w)
    (h : wpAnyH P md ops Q S fuel (listed.setIfInBounds i true) (a.put (some d) v) w) : wpAnyH P md ops Q S (fuel + 1) listed a w :=
  wpAnyH_take hi hs hf hr hQ hy hS (hd ▸ h)
theorem dag_frame4 {G : Nat → Array Bool → Act → World → Prop} {n : Nat} {d : Array Bool} {a : Act} {w : World} (i1 i2 i3 i4 : Nat)
    (h : ∀ F : Value → Value → Value → Value → Act, (∀ x1 x2 x3 x4, F x1 x2 x3 x4 = ((((a.put (some i1) x1).put (some i2) x2).put (some i3) x3).put (some i4) x4)) → G n d a w) : G n d a w := h _ (fun _ _ _ _ => rfl)
theorem dag_frame6 {G : Nat → Array Bool → Act → World → Prop} {n : Nat} {d : Array Bool} {a : Act} {w : World} (i1 i2 i3 i4 i5 i6 : Nat)
    (h : ∀ F : Value → Value → Value → Value → Value → Value → Act, (∀ x1 x2 x3 x4 x5 x6, F x1 x2 x3 x4 x5 x6 = ((((((a.put (some i1) x1).put (some i2) x2).put (some i3) x3).put (some i4) x4).put (some i5) x5).put (some i6) x6)) → G n d a w) : G n d a w := h _ (fun _ _ _ _ _ _ => rfl)
theorem two_other {N M : Nat} {w : World} {u v : Value} (h : TwoAt N w u v) (hne : N ≠ M) (a b : Value) : TwoAt N ((w.setCell ⟨M, 0, none⟩ a).setCell ⟨M, 1, none⟩ b) u v := by
  obtain ⟨h0, h1, f0, f1⟩ := h
  refine ⟨?_, ?_, by simpa using f0, by simpa using f1⟩
  · rw [World.cell?_setCell_other _ ⟨M, 1, none⟩ ⟨N, 0, none⟩ _ (fun e => hne (congrArg Addr.block e).symm), World.cell?_setCell_other _ ⟨M, 0, none⟩ ⟨N, 0, none⟩ _ (fun e => hne (congrArg Addr.block e).symm)]; exact h0
  · rw [World.cell?_setCell_other _ ⟨M, 1, none⟩ ⟨N, 1, none⟩ _ (fun e => hne (congrArg Addr.block e).symm), World.cell?_setCell_other _ ⟨M, 0, none⟩ ⟨N, 1, none⟩ _ (fun e => hne (congrArg Addr.block e).symm)]; exact h1
theorem below_lay2 {N : Nat} {w0 w : World} {X : Nat} {a b : Value} (h : Below N w0 w) (hX : N ≤ X) : Below N w0 ((w.setCell ⟨X, 0, none⟩ a).setCell ⟨X, 1, none⟩ b) :=
  (h.setCell (p := ⟨X, 0, none⟩) hX a).setCell (p := ⟨X, 1, none⟩) hX b
theorem dag_at {G : Nat → Array Bool → Act → World → Prop} {n n' : Nat} {d d' : Array Bool} {a a' : Act} {w : World} (h : G n d a w) (hn : n = n') (hd : d = d') (ha : a = a') : G n' d' a' w := by subst hn; subst hd; subst ha; exact h
/-- Variables of two numbers that were laid so far, behind w0. -/
def VarsSt (w0 : World) (o : List (Option Nat)) (w : World) : Prop :=
  Below w0.heap.size w0 w ∧ (∀ X, some X ∈ o → w0.heap.size ≤ X ∧ TwoAt X w (.int .i64 0) (.int .i64 0)) ∧ ∀ (i j : Nat) (X Y : Nat), o[i]? = some (some X) → o[j]? = some (some Y) → i ≠ j → X ≠ Y
theorem VarsSt.start {w0 w : World} {o : List (Option Nat)} (h : Below w0.heap.size w0 w) (ho : ∀ x ∈ o, x = none) : VarsSt w0 o w :=
  ⟨h, fun X hX => (by have := ho _ hX; cases this), fun i _ X _ hi _ _ => (by have := ho _ (List.mem_of_getElem? hi); cases this)⟩
theorem VarsSt.keep {w0 w w' : World} {o : List (Option Nat)} (h : VarsSt w0 o w) (hb : Below w.heap.size w w') : VarsSt w0 o w' :=
  ⟨h.1.trans (hb.mono h.1.size), fun X hX => ⟨(h.2.1 X hX).1, (h.2.1 X hX).2.on hb (h.2.1 X hX).2.lt⟩, h.2.2⟩
theorem VarsSt.alloc {w0 w : World} {o : List (Option Nat)} (h : VarsSt w0 o w) (i : Nat) (T : TypeId) : VarsSt w0 (o.set i (some w.heap.size)) (w.alloc (.cells #[.int .i64 0, .int .i64 0] T)) := by
  have hk := h.keep ((Below.refl _ _).alloc (Nat.le_refl _) (.cells #[.int .i64 0, .int .i64 0] T))
  have old : ∀ (k : Nat) (Y : Nat), o[k]? = some (some Y) → Y < w.heap.size := fun k Y hY => (h.2.1 Y (List.mem_of_getElem? hY)).2.lt
  have key : ∀ (k : Nat) (Y : Nat), (o.set i (some w.heap.size))[k]? = some (some Y) → (k = i ∧ Y = w.heap.size) ∨ (k ≠ i ∧ o[k]? = some (some Y)) := fun k Y hY => by
    by_cases e : k = i
    · subst e
      have hlt : k < o.length := by
        have := (List.getElem?_eq_some_iff.1 hY).1
        simpa using this
      rw [List.getElem?_set_self hlt] at hY
      exact Or.inl ⟨rfl, (Option.some.inj (Option.some.inj hY)).symm⟩
    · rw [List.getElem?_set_ne (fun e2 => e e2.symm)] at hY
      exact Or.inr ⟨e, hY⟩
  refine ⟨hk.1, fun X hX => ?_, fun a b X Y ha hb hab => ?_⟩
  · obtain ⟨k, hk2⟩ := List.getElem?_of_mem hX
    rcases key k X hk2 with ⟨-, rfl⟩ | ⟨-, h2⟩
    · exact ⟨h.1.size, TwoAt.new _ _ _ _⟩
    · exact hk.2.1 X (List.mem_of_getElem? h2)
  · rcases key a X ha with ⟨rfl, rfl⟩ | ⟨e1, h1⟩ <;> rcases key b Y hb with ⟨rfl, rfl⟩ | ⟨e2, h2⟩
    · exact absurd rfl hab
    · have := old b Y h2; omega
    · have := old a X h1; omega
    · exact h.2.2 a b X Y h1 h2 hab
end Go.Proofs.YtdbebebhldldmaaGreatDoor
/- The document's text of a graph (layer 18): its lines, its head. -/
namespace Go.Proofs.YtdbebebhldldmaaGreatDoor.Gp
open Go.RowKit Go.ChangeShapes EdPure DecPure WordPure GrPure GpPure Str
theorem reads_three (w : World) (a b c : Int) (T : TypeId) : ReadsL encZ (w.alloc (.cells #[.int .i64 a, .int .i64 b, .int .i64 c] T)).heap.size (w.alloc (.cells #[.int .i64 a, .int .i64 b, .int .i64 c] T)) (some ⟨w.heap.size, 0, none⟩) [a, b, c] := by
  refine Or.inr ⟨w.heap.size, 0, rfl, by simp, fun i hi => ?_⟩
  match i, hi with
  | 0, _ => simp [encZ]
  | 1, _ => simp [encZ]
  | 2, _ => simp [encZ]
theorem reads_two (w : World) (a b : Int) (T : TypeId) : ReadsL encZ (w.alloc (.cells #[.int .i64 a, .int .i64 b] T)).heap.size (w.alloc (.cells #[.int .i64 a, .int .i64 b] T)) (some ⟨w.heap.size, 0, none⟩) [a, b] := by
  refine Or.inr ⟨w.heap.size, 0, rfl, by simp, fun i hi => ?_⟩
  match i, hi with
  | 0, _ => simp [encZ]
  | 1, _ => simp [encZ]
/-- A text of this list's bytes. -/
theorem size_mk (l : List UInt8) : (⟨l.toArray⟩ : ByteArray).size = l.length := by show l.toArray.size = _; rw [List.size_toArray]
set_option maxRecDepth 100000 in
set_option maxHeartbeats 2000000 in
theorem refEdges_any (a : Option Addr) (c : Nat) (l : List Ed) (hl : l.length ≤ 100000) (hI : InL l) (w : World) (hR : ReadsE w.heap.size w a l) :
    Calls Tryz.prog 67 #[.slice a l.length c] w fun e w' => e = .returned (.string ⟨(linesP l).toArray⟩) ∧ Below w.heap.size w w' := by
  have HR := Lib.hid hR
  have HI := Lib.hid hI
  have HS := Lib.hid (Below.refl w.heap.size w)
  clear hR hI
  go_enter Tryz.func67, Tryz.ntmps67
  go_wp2
  go_loopw [3, 4] (fun t i wr => ∃ (k : Nat) (T : ByteArray), i = .int .i64 k ∧ k ≤ l.length ∧ t = .string T ∧ Hid (T = ⟨(linesP (l.take k)).toArray⟩) ∧ Hid (Below w.heap.size w wr)) (fun _ i _ => l.length - (intOf i).toNat)
  case atStart => exact ⟨0, ⟨#[]⟩, rfl, Nat.zero_le _, rfl, Lib.hid rfl, HS⟩
  case round =>
    obtain ⟨k, T, rfl, hk, rfl, HT, HB⟩ := hrel
    by_cases hlt : k < l.length
    · obtain ⟨u, v, x, he⟩ : ∃ u v x, l[k] = (u, v, x) := ⟨_, _, _, rfl⟩
      obtain ⟨b, off, rfl, hbw, hbr, c0, c1, c2⟩ := HR.out.cells hlt HB.out he
      have hin := HI.out.at hlt
      rw [he] at hin
      have HIN : Hid (∀ n ∈ [u, v, x], In n) := Lib.hid fun n hn => by
        simp only [List.mem_cons, List.not_mem_nil, or_false] at hn
        rcases hn with rfl | rfl | rfl
        · exact hin.1
        · exact hin.2.1
        · exact hin.2.2
      have HN : Hid (linesP (l.take (k + 1)) = linesP (l.take k) ++ (nums [u, v, x] ++ [10])) := Lib.hid (by rw [lines_take hlt, he]; rfl)
      have t1 : T.size ≤ 6400000 := by
        have := lines_size (HI.out.take k)
        rw [List.length_take] at this
        rw [HT.out, size_mk]; omega
      obtain ⟨X, hX⟩ : ∃ X : ByteArray, X = ⟨(nums [u, v, x]).toArray⟩ := ⟨_, rfl⟩
      have t2 : X.size ≤ 63 := by have := nums_size HIN.out; rw [hX, size_mk]; simpa using this
      have HN2 : Hid (T ++ X ++ ⟨#[10]⟩ = ⟨(linesP (l.take (k + 1))).toArray⟩) := Lib.hid (by
        rw [HT.out, hX, HN.out, show (⟨#[10]⟩ : ByteArray) = ⟨[10].toArray⟩ from rfl, cat_bytes, cat_bytes, List.append_assoc])
      have HX := Lib.hid hX
      have hoff : off + k * 3 + 0 = off + k * 3 := rfl
      clear hX he hin HT HN
      go_wp2_with fail
      have HCV : Hid (∀ W' : World, Below wr.heap.size wr W' → W'.cell? ⟨b, off + k * 3, none⟩ = some (.int .i64 u) ∧ W'.cell? ⟨b, off + k * 3 + 1, none⟩ = some (.int .i64 v) ∧ W'.cell? ⟨b, off + k * 3 + 2, none⟩ = some (.int .i64 x)) := Lib.hid fun W' hb =>
        ⟨(hb.cell (p := ⟨b, off + k * 3, none⟩) hbr).trans c0, (hb.cell (p := ⟨b, off + k * 3 + 1, none⟩) hbr).trans c1, (hb.cell (p := ⟨b, off + k * 3 + 2, none⟩) hbr).trans c2⟩
      have HB1 : Hid (Below wr.heap.size wr wr.drew) := Lib.hid ((Below.refl _ _).drew)
      clear c0 c1 c2
      refine wp_region_held_drew (S := fun W' => W'.cell? ⟨b, off + k * 3, none⟩ = some (.int .i64 u) ∧ W'.cell? ⟨b, off + k * 3 + 1, none⟩ = some (.int .i64 v) ∧ W'.cell? ⟨b, off + k * 3 + 2, none⟩ = some (.int .i64 x)) (by kernel_rfl) (HCV.out _ HB1.out) (fun hHeld => ?_)
      generalize wr.drew = V at *
      have HC := Lib.hid (R6.refList_any (some ⟨V.heap.size, 0, none⟩) 3 [u, v, x] _ HIN.out (reads_three V u v x 2) (by simp))
      rw [← HX.out] at HC
      have HB2 : Hid (Below wr.heap.size wr (V.alloc (.cells #[.int .i64 u, .int .i64 v, .int .i64 x] 2))) := Lib.hid (HB1.out.trans (((Below.refl _ _).alloc (Nat.le_refl _) _).mono HB1.out.size))
      refine dag_take (i := 0) (v := ?ve0) rfl rfl (by kernel_rfl) (by kernel_rfl) (by kernel_rfl) (fun _ _ _ h => h) (Or.inl ⟨by kernel_rfl, fun w' hSw => ?hye0⟩) (by assumption) ?reste0
      case hye0 => ((try dsimp only at hSw); go_simp; (try with_reducible rfl))
      simp only [Act.put]
      refine dag_take (i := 1) (v := ?ve1) rfl rfl (by kernel_rfl) (by kernel_rfl) (by kernel_rfl) (fun _ _ _ h => h) (Or.inl ⟨by kernel_rfl, fun w' hSw => ?hye1⟩) (by assumption) ?reste1
      case hye1 => ((try dsimp only at hSw); go_simp; (try with_reducible rfl))
      simp only [Act.put]
      refine dag_take (i := 2) (v := ?ve2) rfl rfl (by kernel_rfl) (by kernel_rfl) (by kernel_rfl) (fun _ _ _ h => h) (Or.inl ⟨by kernel_rfl, fun w' hSw => ?hye2⟩) (by assumption) ?reste2
      case hye2 => ((try dsimp only at hSw); go_simp; (try with_reducible rfl))
      simp only [Act.put]
      refine dag_take (i := 3) (v := ?ve3) rfl rfl (by kernel_rfl) (by kernel_rfl) (by kernel_rfl) (fun _ _ _ h => h) (Or.inl ⟨by kernel_rfl, fun w' hSw => ?hye3⟩) (by assumption) ?reste3
      case hye3 => ((try dsimp only at hSw); go_simp; (try with_reducible rfl))
      simp only [Act.put]
      refine dag_take (i := 4) (v := ?ve4) rfl rfl (by kernel_rfl) (by kernel_rfl) (by kernel_rfl) (fun _ _ _ h => h) (Or.inl ⟨by kernel_rfl, fun w' hSw => ?hye4⟩) (by assumption) ?reste4
      case hye4 => ((try dsimp only at hSw); go_simp; (try with_reducible rfl))
      simp only [Act.put]
      refine dag_take (i := 5) (v := ?ve5) rfl rfl (by kernel_rfl) (by kernel_rfl) (by kernel_rfl) (fun _ _ _ h => h) (Or.inl ⟨by kernel_rfl, fun w' hSw => ?hye5⟩) (by assumption) ?reste5
      case hye5 => ((try dsimp only at hSw); go_simp; (try with_reducible rfl))
      simp only [Act.put]
      refine dag_take (i := 6) (v := ?ve6) rfl rfl (by kernel_rfl) (by kernel_rfl) (by kernel_rfl) (fun _ _ _ h => h) (Or.inl ⟨by kernel_rfl, fun w' hSw => ?hye6⟩) (by assumption) ?reste6
      case hye6 => ((try dsimp only at hSw); go_simp; (try with_reducible rfl))
      simp only [Act.put]
      refine dag_take (i := 7) (v := ?ve7) rfl rfl (by kernel_rfl) (by kernel_rfl) (by kernel_rfl) (fun _ _ _ h => h) (Or.inl ⟨by kernel_rfl, fun w' hSw => ?hye7⟩) (by assumption) ?reste7
      case hye7 => ((try dsimp only at hSw); go_simp; (try with_reducible rfl))
      simp only [Act.put]
      refine dag_take (i := 8) (v := ?ve8) rfl rfl (by kernel_rfl) (by kernel_rfl) (by kernel_rfl) (fun _ _ _ h => h) (Or.inl ⟨by kernel_rfl, fun w' hSw => ?hye8⟩) (by assumption) ?reste8
      case hye8 => ((try dsimp only at hSw); go_simp; (try with_reducible rfl))
      simp only [Act.put]
      refine dag_take (i := 9) (v := ?ve9) rfl rfl (by kernel_rfl) (by kernel_rfl) (by kernel_rfl) (fun _ _ _ h => h) (Or.inl ⟨by kernel_rfl, fun w' hSw => ?hye9⟩) (by assumption) ?reste9
      case hye9 => ((try dsimp only at hSw); go_simp; (try with_reducible rfl))
      simp only [Act.put]
      refine dag_take (i := 10) (v := ?ve10) rfl rfl (by kernel_rfl) (by kernel_rfl) (by kernel_rfl) (fun _ _ _ h => h) (Or.inl ⟨by kernel_rfl, fun w' hSw => ?hye10⟩) (by assumption) ?reste10
      case hye10 => ((try dsimp only at hSw); go_simp; (try with_reducible rfl))
      simp only [Act.put]
      refine dag_take (i := 11) (v := ?ve11) rfl rfl (by kernel_rfl) (by kernel_rfl) (by kernel_rfl) (fun _ _ _ h => h) (Or.inl ⟨by kernel_rfl, fun w' hSw => ?hye11⟩) (by assumption) ?reste11
      case hye11 => ((try dsimp only at hSw); go_simp; (try with_reducible rfl))
      simp only [Act.put]
      refine dag_take (i := 12) (v := ?ve12) rfl rfl (by kernel_rfl) (by kernel_rfl) (by kernel_rfl) (fun _ _ _ h => h) (Or.inl ⟨by kernel_rfl, fun w' hSw => ?hye12⟩) (by assumption) ?reste12
      case hye12 => ((try dsimp only at hSw); go_simp; (try with_reducible rfl))
      simp only [Act.put]
      refine dag_take (i := 13) (v := ?ve13) rfl rfl (by kernel_rfl) (by kernel_rfl) (by kernel_rfl) (fun _ _ _ h => h) (Or.inl ⟨by kernel_rfl, fun w' hSw => ?hye13⟩) (by assumption) ?reste13
      case hye13 => ((try dsimp only at hSw); go_simp; (try with_reducible rfl))
      simp only [Act.put]
      refine dag_take (i := 14) (v := ?ve14) rfl rfl (by kernel_rfl) (by kernel_rfl) (by kernel_rfl) (fun _ _ _ h => h) (Or.inl ⟨by kernel_rfl, fun w' hSw => ?hye14⟩) (by assumption) ?reste14
      case hye14 => ((try dsimp only at hSw); go_simp; (try with_reducible rfl))
      simp only [Act.put]
      refine dag_take (i := 15) (v := ?ve15) rfl rfl (by kernel_rfl) (by kernel_rfl) (by kernel_rfl) (fun _ _ _ h => h) (Or.inl ⟨by kernel_rfl, fun w' hSw => ?hye15⟩) (by assumption) ?reste15
      case hye15 => ((try dsimp only at hSw); go_simp; (try with_reducible rfl))
      simp only [Act.put]
      refine wpAnyH_ready (rs := [16]) (by kernel_rfl) (by simp) ?_
      refine AllReadyH.cons rfl (fun K hK => ?_) AllReadyH.nil
      go_simp
      go_wp2_with fail
      refine hK.out _ _ ?hSe16 (fun hHeld => ?reste16)
      case hSe16 => exact HCV.out _ HB2.out
      clear hK K
      refine wpAnyH_ready (rs := [17]) (by kernel_rfl) (by simp) ?_
      refine AllReadyH.cons rfl (fun K hK => ?_) AllReadyH.nil
      go_simp
      refine HC.out.mono ?_
      rintro e w1 ⟨rfl, hb1⟩
      have HB3 := Lib.hid (HB2.out.trans (hb1.mono HB2.out.size))
      go_wp2_with fail
      refine hK.out _ _ ?hSe17 (fun hHeld => ?reste17)
      case hSe17 => exact HCV.out _ HB3.out
      clear hK K
      refine wpAnyH_ready (rs := [18]) (by kernel_rfl) (by simp) ?_
      refine AllReadyH.cons rfl (fun K hK => ?_) AllReadyH.nil
      go_simp
      go_wp2_with fail
      refine hK.out _ _ ?hSe18 (fun hHeld => ?reste18)
      case hSe18 => exact HCV.out _ HB3.out
      clear hK K
      refine wpAnyH_ready (rs := [19]) (by kernel_rfl) (by simp) ?_
      refine AllReadyH.cons rfl (fun K hK => ?_) AllReadyH.nil
      go_simp
      go_wp2_with fail
      refine hK.out _ _ ?hSe19 (fun hHeld => ?reste19)
      case hSe19 => exact HCV.out _ HB3.out
      clear hK K
      refine wpAnyH_ready (rs := [20]) (by kernel_rfl) (by simp) ?_
      refine AllReadyH.cons rfl (fun K hK => ?_) AllReadyH.nil
      go_simp
      refine hK.out _ _ (by assumption) (fun hHeld => ?_)
      clear hK K
      refine wpAnyH_done (by kernel_rfl) ?_ _
      have HB4 := Lib.hid (HB.out.trans (HB3.out.mono HB.out.size))
      go_wp2
      go_roundw
      case rel => exact ⟨k + 1, _, by go_num, hlt, rfl, HN2, HB4⟩
      case measure => simp [intOf]; omega
    · have hke : k = l.length := by omega
      have i2 : ¬ (k : Int) < (l.length : Int) := by omega
      have HE : Hid (T = ⟨(linesP l).toArray⟩) := Lib.hid (by rw [HT.out, hke, List.take_length])
      go_wp2
      go_ret
      refine ⟨?_, HB.out⟩
      rw [← HE.out]; rfl
set_option maxRecDepth 100000 in
set_option maxHeartbeats 2000000 in
theorem refText_any (n : Int) (a : Option Addr) (c : Nat) (l : List Ed) (hl : l.length ≤ 100000) (hI : InL l) (hn0 : -9223372036854775808 ≤ n) (hn1 : n ≤ 9223372036854775807) (w : World) (hR : ReadsE w.heap.size w a l) :
    Calls Tryz.prog 35 #[.int .i64 n, .slice a l.length c] w fun e w' => e = .returned (.string ⟨(textP n l).toArray⟩) ∧ Below w.heap.size w w' := by
  have hin : ∀ x ∈ [n, (l.length : Int)], In x := fun x hx => by
    simp only [List.mem_cons, List.not_mem_nil, or_false] at hx
    rcases hx with rfl | rfl
    · exact ⟨hn0, hn1⟩
    · unfold In; omega
  have hB0 : Below w.heap.size w (w.alloc (.cells #[.int .i64 n, .int .i64 (l.length : Int)] 2)) := (Below.refl _ _).alloc (Nat.le_refl _) _
  have HC := Lib.hid (R6.refList_any (some ⟨w.heap.size, 0, none⟩) 2 [n, (l.length : Int)] _ hin (reads_two w n (l.length : Int) 2) (by simp))
  have hR0 : Hid (∀ W, Below (w.alloc (.cells #[.int .i64 n, .int .i64 (l.length : Int)] 2)).heap.size (w.alloc (.cells #[.int .i64 n, .int .i64 (l.length : Int)] 2)) W → Below w.heap.size w W ∧ ReadsE W.heap.size W a l) :=
    Lib.hid fun W hb => ⟨hB0.trans (hb.mono hB0.size), (hR.over hB0 (Nat.le_refl _)).over hb (Nat.le_refl _)⟩
  obtain ⟨X, hX⟩ : ∃ X : ByteArray, X = ⟨(nums [n, (l.length : Int)]).toArray⟩ := ⟨_, rfl⟩
  have t1 : X.size ≤ 42 := by have := nums_size hin; rw [hX, size_mk]; simpa using this
  obtain ⟨Y, hY⟩ : ∃ Y : ByteArray, Y = ⟨(linesP l).toArray⟩ := ⟨_, rfl⟩
  have t2 : Y.size ≤ 6400000 := by have := lines_size hI; rw [hY, size_mk]; omega
  have HZ : Hid ((⟨#[103, 114, 97, 112, 104, 32]⟩ : ByteArray) ++ X ++ ⟨#[10]⟩ ++ Y = ⟨(textP n l).toArray⟩) := Lib.hid (by
    rw [hX, hY, show (⟨#[10]⟩ : ByteArray) = ⟨[10].toArray⟩ from rfl, show (⟨#[103, 114, 97, 112, 104, 32]⟩ : ByteArray) = ⟨[103, 114, 97, 112, 104, 32].toArray⟩ from rfl, cat_bytes, cat_bytes, cat_bytes]
    refine congrArg (fun z : List UInt8 => (⟨z.toArray⟩ : ByteArray)) ?_
    unfold textP headT graphW
    simp)
  have HE := Lib.hid (fun W hR => refEdges_any a c l hl hI W hR)
  rw [← hX] at HC
  rw [← hY] at HE
  clear hX hY hin hB0
  go_enter Tryz.func35, Tryz.ntmps35
  go_wp2_with fail
  refine HC.out.mono ?_
  rintro e w1 ⟨rfl, hb1⟩
  have HB1 := Lib.hid (hR0.out w1 hb1)
  clear hb1 HC hR0
  go_wp2_with fail
  refine (HE.out w1 HB1.out.2).mono ?_
  rintro e w2 ⟨rfl, hb2⟩
  have HB2 := Lib.hid (HB1.out.1.trans (hb2.mono HB1.out.1.size))
  clear hb2 HE
  go_wp2
  go_ret
  refine ⟨?_, HB2.out⟩
  rw [← HZ.out]; rfl
end Go.Proofs.YtdbebebhldldmaaGreatDoor.Gp
