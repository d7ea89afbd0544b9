/- Texts that the laws of this seat stand on, part 22. -/
import Derived.Test.YtmohfmhkhldhnaaGreatPk1
import Derived.Deep.RegionHeld3
import Derived.Test.YtmohfmhkhldhnaaGreatPk16
import Derived.Test.YtmohfmhkhldhnaaGreatPk21
import Derived.Test.YtmohfmhkhldhnaaGreatPk9
import Derived.Deep.Cut
/- A drawn region whose operations may come up in many orders, gone over by what is done, not by the order: what is left of it as a letter (G), the frame as a function of what was made (F). No function of the program is named. -/
namespace Go.Proofs.YtmohfmhkhldhnaaGreat
open Go.RowKit Go.ChangeShapes
theorem dag_of {P : Program} {md : Region.Mode} {ops : Array Oper} {Q : Exit → Act → World → Prop} {S : World → Prop} {n : Nat} {d : Array Bool} {a : Act} {w : World}
    (h : ∀ G : Nat → Array Bool → Act → World → Prop, (∀ n d a w, wpAnyH P md ops Q S n d a w → G n d a w) → (∀ n d a w, G n d a w → wpAnyH P md ops Q S n d a w) → G n d a w) : wpAnyH P md ops Q S n d a w :=
  h (fun n d a w => wpAnyH P md ops Q S n d a w) (fun _ _ _ _ h => h) (fun _ _ _ _ h => h)
/-- The same, with each operation's step as a letter (T), so that a call's step is walked once, whatever was laid so far. -/
theorem dag_of2 {P : Program} {md : Region.Mode} {ops : Array Oper} {Q : Exit → Act → World → Prop} {S : World → Prop} {n : Nat} {d : Array Bool} {a : Act} {w : World}
    (h : ∀ (G : Nat → Array Bool → Act → World → Prop) (T : Nat → Act → World → (Act → World → Prop) → Prop), (∀ n d a w, wpAnyH P md ops Q S n d a w → G n d a w) → (∀ n d a w, G n d a w → wpAnyH P md ops Q S n d a w) →
      (∀ i o, ops[i]? = some o → ∀ a w K, (if Region.wanted o (yielded ops a.tmps) = true then Oper.wp P o a w K Q else K (a.put o.dst undef) w) ↔ T i a w K) → G n d a w) : wpAnyH P md ops Q S n d a w :=
  h (fun n d a w => wpAnyH P md ops Q S n d a w) (fun i a w K => ∀ o, ops[i]? = some o → if Region.wanted o (yielded ops a.tmps) = true then Oper.wp P o a w K Q else K (a.put o.dst undef) w) (fun _ _ _ _ h => h) (fun _ _ _ _ h => h)
    (fun i o ho a w K => ⟨fun h o' ho' => by rw [ho] at ho'; obtain rfl := Option.some.inj ho'; exact h, fun h => h o ho⟩)
/-- An operation is taken first; where its value goes is told as it stands (else each step holds the whole list of operations in its 'dst'). -/
theorem dag_take {P : Program} {md : Region.Mode} {ops : Array Oper} {Q : Exit → Act → World → Prop} {S : World → Prop} {i d : Nat} {oi : Oper} {v : Value} {fuel : Nat} {listed : Array Bool} {a : Act} {w : World} (hi : ops[i]? = some oi) (hd : oi.dst = some d)
    (hs : Region.noSelect ops = true) (hf : Region.free md ops listed i = true) (hr : (Region.ready md ops listed).contains i = true)
    (hQ : ∀ c a w, Q (.panic c) (a.put oi.dst v) w → Q (.panic c) a w) (hy : YieldsIf P ops S oi v a) (hS : S w)
    (h : wpAnyH P md ops Q S fuel (listed.setIfInBounds i true) (a.put (some d) v) w) : wpAnyH P md ops Q S (fuel + 1) listed a w :=
  wpAnyH_take hi hs hf hr hQ hy hS (hd ▸ h)
theorem dag_frame4 {G : Nat → Array Bool → Act → World → Prop} {n : Nat} {d : Array Bool} {a : Act} {w : World} (i1 i2 i3 i4 : Nat)
    (h : ∀ F : Value → Value → Value → Value → Act, (∀ x1 x2 x3 x4, F x1 x2 x3 x4 = ((((a.put (some i1) x1).put (some i2) x2).put (some i3) x3).put (some i4) x4)) → G n d a w) : G n d a w := h _ (fun _ _ _ _ => rfl)
theorem dag_frame6 {G : Nat → Array Bool → Act → World → Prop} {n : Nat} {d : Array Bool} {a : Act} {w : World} (i1 i2 i3 i4 i5 i6 : Nat)
    (h : ∀ F : Value → Value → Value → Value → Value → Value → Act, (∀ x1 x2 x3 x4 x5 x6, F x1 x2 x3 x4 x5 x6 = ((((((a.put (some i1) x1).put (some i2) x2).put (some i3) x3).put (some i4) x4).put (some i5) x5).put (some i6) x6)) → G n d a w) : G n d a w := h _ (fun _ _ _ _ _ _ => rfl)
theorem two_other {N M : Nat} {w : World} {u v : Value} (h : TwoAt N w u v) (hne : N ≠ M) (a b : Value) : TwoAt N ((w.setCell ⟨M, 0, none⟩ a).setCell ⟨M, 1, none⟩ b) u v := by
  obtain ⟨h0, h1, f0, f1⟩ := h
  refine ⟨?_, ?_, by simpa using f0, by simpa using f1⟩
  · rw [World.cell?_setCell_other _ ⟨M, 1, none⟩ ⟨N, 0, none⟩ _ (fun e => hne (congrArg Addr.block e).symm), World.cell?_setCell_other _ ⟨M, 0, none⟩ ⟨N, 0, none⟩ _ (fun e => hne (congrArg Addr.block e).symm)]; exact h0
  · rw [World.cell?_setCell_other _ ⟨M, 1, none⟩ ⟨N, 1, none⟩ _ (fun e => hne (congrArg Addr.block e).symm), World.cell?_setCell_other _ ⟨M, 0, none⟩ ⟨N, 1, none⟩ _ (fun e => hne (congrArg Addr.block e).symm)]; exact h1
theorem below_lay2 {N : Nat} {w0 w : World} {X : Nat} {a b : Value} (h : Below N w0 w) (hX : N ≤ X) : Below N w0 ((w.setCell ⟨X, 0, none⟩ a).setCell ⟨X, 1, none⟩ b) :=
  (h.setCell (p := ⟨X, 0, none⟩) hX a).setCell (p := ⟨X, 1, none⟩) hX b
theorem dag_at {G : Nat → Array Bool → Act → World → Prop} {n n' : Nat} {d d' : Array Bool} {a a' : Act} {w : World} (h : G n d a w) (hn : n = n') (hd : d = d') (ha : a = a') : G n' d' a' w := by subst hn; subst hd; subst ha; exact h
/-- Variables of two numbers that were laid so far, behind w0. -/
def VarsSt (w0 : World) (o : List (Option Nat)) (w : World) : Prop :=
  Below w0.heap.size w0 w ∧ (∀ X, some X ∈ o → w0.heap.size ≤ X ∧ TwoAt X w (.int .i64 0) (.int .i64 0)) ∧ ∀ (i j : Nat) (X Y : Nat), o[i]? = some (some X) → o[j]? = some (some Y) → i ≠ j → X ≠ Y
theorem VarsSt.start {w0 w : World} {o : List (Option Nat)} (h : Below w0.heap.size w0 w) (ho : ∀ x ∈ o, x = none) : VarsSt w0 o w :=
  ⟨h, fun X hX => (by have := ho _ hX; cases this), fun i _ X _ hi _ _ => (by have := ho _ (List.mem_of_getElem? hi); cases this)⟩
theorem VarsSt.keep {w0 w w' : World} {o : List (Option Nat)} (h : VarsSt w0 o w) (hb : Below w.heap.size w w') : VarsSt w0 o w' :=
  ⟨h.1.trans (hb.mono h.1.size), fun X hX => ⟨(h.2.1 X hX).1, (h.2.1 X hX).2.on hb (h.2.1 X hX).2.lt⟩, h.2.2⟩
theorem VarsSt.alloc {w0 w : World} {o : List (Option Nat)} (h : VarsSt w0 o w) (i : Nat) (T : TypeId) : VarsSt w0 (o.set i (some w.heap.size)) (w.alloc (.cells #[.int .i64 0, .int .i64 0] T)) := by
  have hk := h.keep ((Below.refl _ _).alloc (Nat.le_refl _) (.cells #[.int .i64 0, .int .i64 0] T))
  have old : ∀ (k : Nat) (Y : Nat), o[k]? = some (some Y) → Y < w.heap.size := fun k Y hY => (h.2.1 Y (List.mem_of_getElem? hY)).2.lt
  have key : ∀ (k : Nat) (Y : Nat), (o.set i (some w.heap.size))[k]? = some (some Y) → (k = i ∧ Y = w.heap.size) ∨ (k ≠ i ∧ o[k]? = some (some Y)) := fun k Y hY => by
    by_cases e : k = i
    · subst e
      have hlt : k < o.length := by
        have := (List.getElem?_eq_some_iff.1 hY).1
        simpa using this
      rw [List.getElem?_set_self hlt] at hY
      exact Or.inl ⟨rfl, (Option.some.inj (Option.some.inj hY)).symm⟩
    · rw [List.getElem?_set_ne (fun e2 => e e2.symm)] at hY
      exact Or.inr ⟨e, hY⟩
  refine ⟨hk.1, fun X hX => ?_, fun a b X Y ha hb hab => ?_⟩
  · obtain ⟨k, hk2⟩ := List.getElem?_of_mem hX
    rcases key k X hk2 with ⟨-, rfl⟩ | ⟨-, h2⟩
    · exact ⟨h.1.size, TwoAt.new _ _ _ _⟩
    · exact hk.2.1 X (List.mem_of_getElem? h2)
  · rcases key a X ha with ⟨rfl, rfl⟩ | ⟨e1, h1⟩ <;> rcases key b Y hb with ⟨rfl, rfl⟩ | ⟨e2, h2⟩
    · exact absurd rfl hab
    · have := old b Y h2; omega
    · have := old a X h1; omega
    · exact h.2.2 a b X Y h1 h2 hab
end Go.Proofs.YtmohfmhkhldhnaaGreat
/- The document's classes by heavy edges (layer 20). -/
namespace Go.Proofs.YtmohfmhkhldhnaaGreat.Cm
open Go.RowKit Go.ChangeShapes EdPure NtPure DsuPure CmPure Ds
def RowsOut (L : List (List Int)) (w : World) (e : Ending) (w' : World) : Prop := Below w.heap.size w w' ∧ ∃ q d M, e = .returned (.slice q L.length d) ∧ RowsAt M w' q L ∧ w.heap.size ≤ M
/-- The classes so far, in a variable, beside the boxed graph of the world W1. -/
def HvSt (w W1 : World) (B : Nat) (q : Option Addr) (c n : Nat) (p : Nat → Nat) (wr : World) : Prop :=
  Below w.heap.size w wr ∧ Below W1.heap.size W1 wr ∧ OneAt B wr (.slice q n c) ∧ RefAt wr q n p ∧ (∀ z, q = some z → z.block ≠ B) ∧ W1.heap.size ≤ B ∧ w.heap.size ≤ W1.heap.size
theorem HvSt.store {w W1 wr w' : World} {B : Nat} {q q2 : Option Addr} {c c2 n : Nat} {p p2 : Nat → Nat} (h : HvSt w W1 B q c n p wr) (hb : Below wr.heap.size wr w') (ho : Off q2 wr.heap.size w' ∨ q2 = q) (hr : RefAt w' q2 n p2) :
    HvSt w W1 B q2 c2 n p2 (w'.setCell ⟨B, 0, none⟩ (.slice q2 n c2)) := by
  obtain ⟨h1, h2, h3, h4, h5, h6, h7⟩ := h
  have hne : ∀ z, q2 = some z → z.block ≠ B := fun z hz e => by
    rcases ho with ho | ho
    · have := (ho z hz).1; have := h3.lt; omega
    · exact h5 z (by rw [← ho]; exact hz) e
  refine ⟨(h1.trans (hb.mono h1.size)).setCell (p := ⟨B, 0, none⟩) (show w.heap.size ≤ B by omega) _, (h2.trans (hb.mono h2.size)).setCell (p := ⟨B, 0, none⟩) h6 _, (h3.keep hb).set _, ?_, hne, h6, h7⟩
  unfold RefAt at hr ⊢
  rcases hr with hr | ⟨b, off, rfl, hN, hc⟩
  · exact Or.inl hr
  · refine Or.inr ⟨b, off, rfl, by simpa using hN, fun i hi => ?_⟩
    rw [World.cell?_setCell_other _ ⟨B, 0, none⟩ ⟨b, off + i, none⟩ _ (fun e => hne _ rfl (congrArg Addr.block e).symm)]
    exact hc i hi
set_option maxRecDepth 100000 in
set_option maxHeartbeats 4000000 in
theorem refHeavy_any (n : Nat) (hn : n ≤ 4096) (a : Option Addr) (c : Nat) (M : List Ed) (hl : M.length ≤ 100000) (least : Int) (w : World) (hR : ReadsE w.heap.size w a M) :
    Calls Tryz.prog 16 #[.agg #[.int .i64 (n : Int), .slice a M.length c], .int .i64 least] w fun e w' => RowsOut (listsP n (namH n M least)) w e w' := by
  have HS : Hid (BoxSt w w.heap.size (n : Int) a c M (w.alloc (.cells #[.int .i64 (n : Int), .slice a M.length c] 37))) := Lib.hid (BoxSt.start hR)
  have hrm : roomN (n : Int) = n := by unfold roomN; (try split) <;> omega
  clear hR
  go_enter Tryz.func16, Tryz.ntmps16
  go_upto_region 1 with fail
  generalize w.alloc (.cells #[.int .i64 (n : Int), .slice a M.length c] 37) = W0 at *
  obtain ⟨c0, c1, -, -⟩ := HS.out.2.1
  go_wp2_with fail
  refine (newRef_any (n : Int) W0).mono ?_
  rw [hrm]
  rintro e w1 ⟨q0, cq0, rfl, hb1, ho1, hr1⟩
  have hbA : Below w1.heap.size w1 (w1.alloc (.cells #[.slice q0 n cq0] 85)) := (Below.refl _ _).alloc (Nat.le_refl _) _
  have HS1 := Lib.hid (HS.out.keep hb1)
  have HV0 : Hid (HvSt w w1 w1.heap.size q0 cq0 n (namH n (M.take 0) least) (w1.alloc (.cells #[.slice q0 n cq0] 85))) := Lib.hid
    ⟨HS1.out.1.trans (hbA.mono HS1.out.1.size), hbA, OneAt.new w1 _ _, hr1.keep hbA, fun z hz e => by have := (ho1 z hz).2; omega, Nat.le_refl _, HS1.out.1.size⟩
  clear hb1 ho1 hr1 hbA hrm c0 c1 HS
  go_wp2_with fail
  generalize w1.alloc (.cells #[.slice q0 n cq0] 85) = W2 at *
  generalize w1.heap.size = B at *
  go_loopw [6] (fun i wr => ∃ (k : Nat) (q : Option Addr) (cq : Nat), i = .int .i64 k ∧ k ≤ M.length ∧ Hid (HvSt w w1 B q cq n (namH n (M.take k) least) wr)) (fun i _ => M.length - (intOf i).toNat)
  case atStart => exact ⟨0, q0, cq0, rfl, Nat.zero_le _, HV0⟩
  case round =>
    clear HV0
    obtain ⟨k, q, cq, rfl, hk, HV⟩ := hrel
    have HB := Lib.hid (HS1.out.keep HV.out.2.1)
    obtain ⟨c0, c1, -, -⟩ := HB.out.2.1
    by_cases hlt : k < M.length
    · obtain ⟨u, v, x, he⟩ : ∃ u v x, M[k] = (u, v, x) := ⟨_, _, _, rfl⟩
      obtain ⟨b, off, rfl, hbw, hbr, m0, m1, m2⟩ := HS1.out.2.2.cells hlt HV.out.2.1 he
      have i2 : (k : Int) < (M.length : Int) := by omega
      have HNX : Hid (namH n (M.take (k + 1)) least = stepH n least (namH n (M.take k) least) (u, v, x)) := Lib.hid (by rw [nam_take hlt, he])
      clear he
      by_cases hx : least ≤ x
      · have HU : Hid (namH n (M.take (k + 1)) least = joinZ n (namH n (M.take k) least) u v) := Lib.hid (by rw [HNX.out]; exact if_pos hx)
        have hx2 : x ≥ least := hx
        clear HNX
        go_upto_region 6 with fail
        have hb0 : Hid (Below wr.heap.size wr wr.drew) := Lib.hid ((Below.refl _ _).drew)
        have hOne := HV.out.2.2.1
        have HOB : Hid (∀ W', Below wr.heap.size wr W' → W'.cell? ⟨B, 0, none⟩ = some (.slice q n cq) ∧ W'.frozen? ⟨B, 0, none⟩ = false) := Lib.hid fun W' hb => hOne.keep hb
        have HCV : Hid (∀ W', Below wr.heap.size wr W' → W'.cell? ⟨B, 0, none⟩ = some (.slice q n cq) ∧ W'.cell? ⟨w.heap.size, 1, none⟩ = some (.slice (some ⟨b, off, none⟩) M.length c) ∧ W'.cell? ⟨b, off + k * 3, none⟩ = some (.int .i64 u) ∧ W'.cell? ⟨b, off + k * 3 + 1, none⟩ = some (.int .i64 v)) :=
          Lib.hid fun W' hb => ⟨(hOne.keep hb).1, (hb.cell (p := ⟨w.heap.size, 1, none⟩) HB.out.2.1.lt).trans c1, (hb.cell (p := ⟨b, off + k * 3, none⟩) hbr).trans m0, (hb.cell (p := ⟨b, off + k * 3 + 1, none⟩) hbr).trans m1⟩
        have HC := Lib.hid (joinRef_any n hn (namH n (M.take k) least) q cq u v wr.drew (HV.out.2.2.2.1.keep hb0.out))
        have HNE : Hid (B ≠ w.heap.size ∧ B ≠ b) := Lib.hid (by
          have h1 := HV.out.2.2.2.2.2.1
          have h2 := HS1.out.2.1.lt
          omega)
        have HSZ : Hid (wr.drew.heap.size = wr.heap.size) := Lib.hid rfl
        refine wp_region_held_drew (S := fun W' => W'.cell? ⟨w.heap.size, 1, none⟩ = some (.slice (some ⟨b, off, none⟩) M.length c) ∧ W'.cell? ⟨b, off + k * 3, none⟩ = some (.int .i64 u) ∧ W'.cell? ⟨b, off + k * 3 + 1, none⟩ = some (.int .i64 v)) (by kernel_rfl) (HCV.out _ hb0.out).2 (fun hHeld => ?_)
        refine dag_take (i := 1) (v := ?vj1) rfl rfl (by kernel_rfl) (by kernel_rfl) (by kernel_rfl) (fun _ _ _ h => h) (Or.inl ⟨by kernel_rfl, fun w' hSw => ?hyj1⟩) (by assumption) ?restj1
        case hyj1 => ((try dsimp only at hSw); go_simp; (try with_reducible rfl))
        simp only [Act.put]
        refine dag_take (i := 2) (v := ?vj2) rfl rfl (by kernel_rfl) (by kernel_rfl) (by kernel_rfl) (fun _ _ _ h => h) (Or.inl ⟨by kernel_rfl, fun w' hSw => ?hyj2⟩) (by assumption) ?restj2
        case hyj2 => ((try dsimp only at hSw); go_simp; (try with_reducible rfl))
        simp only [Act.put]
        refine dag_take (i := 3) (v := ?vj3) rfl rfl (by kernel_rfl) (by kernel_rfl) (by kernel_rfl) (fun _ _ _ h => h) (Or.inl ⟨by kernel_rfl, fun w' hSw => ?hyj3⟩) (by assumption) ?restj3
        case hyj3 => ((try dsimp only at hSw); go_simp; (try with_reducible rfl))
        simp only [Act.put]
        refine dag_take (i := 4) (v := ?vj4) rfl rfl (by kernel_rfl) (by kernel_rfl) (by kernel_rfl) (fun _ _ _ h => h) (Or.inl ⟨by kernel_rfl, fun w' hSw => ?hyj4⟩) (by assumption) ?restj4
        case hyj4 => ((try dsimp only at hSw); go_simp; (try with_reducible rfl))
        simp only [Act.put]
        refine dag_take (i := 5) (v := ?vj5) rfl rfl (by kernel_rfl) (by kernel_rfl) (by kernel_rfl) (fun _ _ _ h => h) (Or.inl ⟨by kernel_rfl, fun w' hSw => ?hyj5⟩) (by assumption) ?restj5
        case hyj5 => ((try dsimp only at hSw); go_simp; (try with_reducible rfl))
        simp only [Act.put]
        refine dag_take (i := 6) (v := ?vj6) rfl rfl (by kernel_rfl) (by kernel_rfl) (by kernel_rfl) (fun _ _ _ h => h) (Or.inl ⟨by kernel_rfl, fun w' hSw => ?hyj6⟩) (by assumption) ?restj6
        case hyj6 => ((try dsimp only at hSw); go_simp; (try with_reducible rfl))
        simp only [Act.put]
        refine dag_take (i := 7) (v := ?vj7) rfl rfl (by kernel_rfl) (by kernel_rfl) (by kernel_rfl) (fun _ _ _ h => h) (Or.inl ⟨by kernel_rfl, fun w' hSw => ?hyj7⟩) (by assumption) ?restj7
        case hyj7 => ((try dsimp only at hSw); go_simp; (try with_reducible rfl))
        simp only [Act.put]
        refine dag_take (i := 8) (v := ?vj8) rfl rfl (by kernel_rfl) (by kernel_rfl) (by kernel_rfl) (fun _ _ _ h => h) (Or.inl ⟨by kernel_rfl, fun w' hSw => ?hyj8⟩) (by assumption) ?restj8
        case hyj8 => ((try dsimp only at hSw); go_simp; (try with_reducible rfl))
        simp only [Act.put]
        refine dag_take (i := 9) (v := ?vj9) rfl rfl (by kernel_rfl) (by kernel_rfl) (by kernel_rfl) (fun _ _ _ h => h) (Or.inl ⟨by kernel_rfl, fun w' hSw => ?hyj9⟩) (by assumption) ?restj9
        case hyj9 => ((try dsimp only at hSw); go_simp; (try with_reducible rfl))
        simp only [Act.put]
        refine dag_take (i := 10) (v := ?vj10) rfl rfl (by kernel_rfl) (by kernel_rfl) (by kernel_rfl) (fun _ _ _ h => h) (Or.inl ⟨by kernel_rfl, fun w' hSw => ?hyj10⟩) (by assumption) ?restj10
        case hyj10 => ((try dsimp only at hSw); go_simp; (try with_reducible rfl))
        simp only [Act.put]
        refine dag_take (i := 11) (v := ?vj11) rfl rfl (by kernel_rfl) (by kernel_rfl) (by kernel_rfl) (fun _ _ _ h => h) (Or.inl ⟨by kernel_rfl, fun w' hSw => ?hyj11⟩) (by assumption) ?restj11
        case hyj11 => ((try dsimp only at hSw); go_simp; (try with_reducible rfl))
        simp only [Act.put]
        refine dag_take (i := 12) (v := ?vj12) rfl rfl (by kernel_rfl) (by kernel_rfl) (by kernel_rfl) (fun _ _ _ h => h) (Or.inl ⟨by kernel_rfl, fun w' hSw => ?hyj12⟩) (by assumption) ?restj12
        case hyj12 => ((try dsimp only at hSw); go_simp; (try with_reducible rfl))
        simp only [Act.put]
        obtain ⟨k0, -⟩ := HOB.out _ hb0.out
        generalize wr.drew = V0 at *
        refine wpAnyH_ready (rs := [0]) (by kernel_rfl) (by simp) ?_
        refine AllReadyH.cons rfl (fun K hK => ?_) AllReadyH.nil
        go_simp
        go_wp2_with fail
        refine hK.out _ _ ?hSj0 (fun hHeld => ?restj0)
        case hSj0 => exact (HCV.out _ hb0.out).2
        clear hK K
        clear k0
        refine wpAnyH_ready (rs := [13]) (by kernel_rfl) (by simp) ?_
        refine AllReadyH.cons rfl (fun K hK => ?_) AllReadyH.nil
        go_simp
        refine HC.out.mono ?_
        rintro e y1 ⟨q2, c2, rfl, hb1, ho, hr⟩
        have HB1 := Lib.hid (hb0.out.trans (hb1.mono hb0.out.size))
        have HO : Hid (Off q2 wr.heap.size y1 ∨ q2 = q) := Lib.hid (by rw [← HSZ.out]; exact ho)
        have HR2 := Lib.hid hr
        clear hb1 ho hr
        go_wp2_with fail
        refine hK.out _ _ ?hSj13 (fun hHeld => ?restj13)
        case hSj13 => exact (HCV.out _ HB1.out).2
        clear hK K
        obtain ⟨k0, kf⟩ := HOB.out _ HB1.out
        have hlB := World.block_lt_of_cell? _ _ k0
        have HZ := Lib.hid (HV.out.store (c2 := c2) HB1.out HO.out HR2.out)
        rw [← HU.out] at HZ
        have HSS : Hid ((y1.setCell ⟨B, 0, none⟩ (.slice q2 n c2)).cell? ⟨w.heap.size, 1, none⟩ = some (.slice (some ⟨b, off, none⟩) M.length c) ∧ (y1.setCell ⟨B, 0, none⟩ (.slice q2 n c2)).cell? ⟨b, off + k * 3, none⟩ = some (.int .i64 u) ∧ (y1.setCell ⟨B, 0, none⟩ (.slice q2 n c2)).cell? ⟨b, off + k * 3 + 1, none⟩ = some (.int .i64 v)) := Lib.hid (by
          have hh := (HCV.out _ HB1.out).2
          have hn1 := HNE.out.1
          have hn2 := HNE.out.2
          exact ⟨(World.cell?_setCell_far _ ⟨B, 0, none⟩ ⟨w.heap.size, 1, none⟩ _ hn1).trans hh.1, (World.cell?_setCell_far _ ⟨B, 0, none⟩ ⟨b, off + k * 3, none⟩ _ hn2).trans hh.2.1, (World.cell?_setCell_far _ ⟨B, 0, none⟩ ⟨b, off + k * 3 + 1, none⟩ _ hn2).trans hh.2.2⟩)
        refine wpAnyH_ready (rs := [14]) (by kernel_rfl) (by simp) ?_
        refine AllReadyH.cons rfl (fun K hK => ?_) AllReadyH.nil
        go_simp
        go_wp2_with fail
        refine hK.out _ _ ?hSj14 (fun hHeld => ?restj14)
        case hSj14 => exact HSS.out
        clear hK K
        refine wpAnyH_done (by kernel_rfl) ?_ _
        go_wp2
        go_roundw
        case rel => exact ⟨k + 1, q2, c2, by go_num, hlt, HZ⟩
        case measure => (simp [intOf]; omega)
      · have HU : Hid (namH n (M.take (k + 1)) least = namH n (M.take k) least) := Lib.hid (by rw [HNX.out]; exact if_neg hx)
        have hx2 : ¬ x ≥ least := hx
        clear HNX
        go_wp2
        go_roundw
        case rel => exact ⟨k + 1, q, cq, by go_num, hlt, by rw [HU.out]; exact HV⟩
        case measure => (simp [intOf]; omega)
    · have hke : k = M.length := by omega
      have i2 : ¬ (k : Int) < (M.length : Int) := by omega
      rw [hke, List.take_length] at HV
      clear hke
      have HC := Lib.hid (listRef_any n hn (namH n M least) q cq wr HV.out.2.2.2.1)
      obtain ⟨k0, -⟩ := HV.out.2.2.1
      go_wp2_with fail
      refine HC.out.mono ?_
      rintro e w4 ⟨q4, d4, rfl, hrw, hb4⟩
      have HB4 := Lib.hid (HV.out.1.trans (hb4.mono HV.out.1.size))
      have HRW := Lib.hid hrw
      clear hrw hb4
      go_wp2
      go_ret
      exact ⟨HB4.out, q4, d4, _, rfl, HRW.out, by have := HV.out.1.size; omega⟩
end Go.Proofs.YtmohfmhkhldhnaaGreat.Cm
/- Which list of the classes a vertex is in, plainly. No function of the program is named. -/
namespace Go.Proofs.YtmohfmhkhldhnaaGreat.CmPure
open EdPure NtPure DsuPure
theorem row_mem {n : Nat} {p : Nat → Nat} {r : Nat} {v : Int} : v ∈ DsuPure.rowL n p r ↔ fitB n v = true ∧ p v.toNat = r := by
  unfold DsuPure.rowL
  rw [List.mem_map]
  constructor
  · rintro ⟨x, hx, rfl⟩
    obtain ⟨h1, h2⟩ := List.mem_filter.1 hx
    rw [List.mem_range] at h1
    exact ⟨fit_of h1, by simpa using h2⟩
  · rintro ⟨h1, h2⟩
    obtain ⟨u, rfl, hu⟩ := fit_yes h1
    exact ⟨u, List.mem_filter.2 ⟨List.mem_range.2 hu, by simpa using h2⟩, rfl⟩
theorem list_at {n : Nat} {p : Nat → Nat} {i : Nat} (h : i < (listsP n p).length) : ∃ r, (listsP n p)[i] = DsuPure.rowL n p r := by
  unfold listsP at h ⊢
  rw [List.getElem_map]
  exact ⟨_, rfl⟩
/-- The list that has v is what hangs together with it. -/
theorem reach_hit {n : Nat} {p : Nat → Nat} {v : Int} {i : Nat} (h : i < (listsP n p).length) (hv : v ∈ (listsP n p)[i]) : (listsP n p)[i] = reachL n p v := by
  obtain ⟨r, hr⟩ := list_at h
  rw [hr] at hv ⊢
  obtain ⟨h1, h2⟩ := row_mem.1 hv
  unfold reachL
  rw [if_pos h1, h2]
theorem reach_miss {n : Nat} {p : Nat → Nat} (hp : Names n p) {v : Int} (h : ∀ i (hi : i < (listsP n p).length), v ∉ (listsP n p)[i]) : reachL n p v = [] := by
  unfold reachL
  by_cases hf : fitB n v = true
  · exfalso
    obtain ⟨u, rfl, hu⟩ := fit_yes hf
    have h1 := hp.1 u
    have h2 := hp.2.1 u
    have hm : p u ∈ rootsL n p := by
      unfold rootsL
      exact List.mem_filter.2 ⟨List.mem_range.2 (by omega), by simpa using h2⟩
    have hl : DsuPure.rowL n p (p u) ∈ listsP n p := List.mem_map.2 ⟨p u, hm, rfl⟩
    obtain ⟨i, hi, hii⟩ := List.mem_iff_getElem.1 hl
    exact h i hi (by rw [hii]; exact row_mem.2 ⟨hf, by simp⟩)
  · rw [if_neg hf]
theorem lists_rows {n : Nat} {p : Nat → Nat} : ∀ l ∈ listsP n p, l.length ≤ n := fun l hl => by
  obtain ⟨r, -, rfl⟩ := List.mem_map.1 hl
  exact rowL_le _ _ _
theorem lists_few {n : Nat} {p : Nat → Nat} : (listsP n p).length ≤ n := by rw [listsP_len]; exact rootsN_le _ _
end Go.Proofs.YtmohfmhkhldhnaaGreat.CmPure
