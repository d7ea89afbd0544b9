/- What the laws of layer 9 share: that the program has sets at all; whether a set has what the document has. -/
import Derived.Test.YtkhkejfpoaleoaaDoorVsetRef4
namespace Go.Proofs.YtkhkejfpoaleoaaDoor
open Go.RowKit Go.ChangeShapes VsetPure
theorem p_list : listP (ofP 3 [0, 2, 7]) 3 = [0, 2] := by decide
theorem p_other : listP (otherP 3 (ofP 3 [0, 2, 7])) 3 = [1] := by decide
theorem p_has : (fitB 3 2 && ofP 3 [0, 2, 7] (2 : Int).toNat) = true := by decide
theorem p_parts : partsP 3 (ofP 3 [0, 2, 7]) 0 1 = true := by decide
theorem reads_three (w : World) (T : TypeId) : ReadsL (encInt .i64) (w.alloc (.cells #[.int .i64 0, .int .i64 2, .int .i64 7] T)).heap.size (w.alloc (.cells #[.int .i64 0, .int .i64 2, .int .i64 7] T)) (some ⟨w.heap.size, 0, none⟩) [0, 2, 7] := by
  refine Or.inr ⟨w.heap.size, 0, rfl, by simp, fun i hi => ?_⟩
  rw [World.cell?_alloc_at _ _ _ _ rfl]
  match i, hi with
  | 0, _ => rfl
  | 1, _ => rfl
  | 2, _ => rfl
theorem reads_one (w : World) (T : TypeId) : ReadsL encN (w.alloc (.cells #[.int .i64 1] T)).heap.size (w.alloc (.cells #[.int .i64 1] T)) (some ⟨w.heap.size, 0, none⟩) [1] := by
  refine Or.inr ⟨w.heap.size, 0, rfl, by simp, fun i hi => ?_⟩
  rw [World.cell?_alloc_at _ _ _ _ rfl]
  match i, hi with
  | 0, _ => rfl
set_option maxHeartbeats 1000000 in
theorem awake_any (w : World) (hT : TabAt 0 Lib.deBruijn64tab w) :
    Calls Tryd.prog 6 #[] w fun e w' => e = .returned (.bool true) ∧ Below w.heap.size w w' := by
  have HT := Lib.hid hT
  clear hT
  go_enter Tryd.func6, Tryd.ntmps6
  go_wp2_with fail
  refine (of_any 3 (by decide) (by decide) (some ⟨w.heap.size, 0, none⟩) 3 [0, 2, 7] _ (reads_three w 3) (by decide)).mono ?_
  rintro e w1 ⟨rfl, hb1, hs1⟩
  have hA1 := (Below.refl _ w).alloc (Nat.le_refl _) (.cells #[.int .i64 0, .int .i64 2, .int .i64 7] 3)
  have HB1 : Hid (Below w.heap.size w w1) := Lib.hid (hA1.trans (hb1.mono hA1.size))
  have HS1 : Hid (SetAt (w.heap.size + 2) (w.heap.size + 1) w1 3 (ofP 3 [0, 2, 7])) := Lib.hid (by
    rw [World.size_alloc] at hs1; exact hs1)
  clear hb1 hs1 hA1
  have HL := Lib.hid p_list
  have HO := Lib.hid p_other
  have HH := Lib.hid p_has
  have HPa := Lib.hid p_parts
  generalize ofP 3 [0, 2, 7] = p at *
  go_wp2_with fail
  refine (len_any _ _ 3 p w1 HS1.out).mono ?_
  rintro e w2 ⟨rfl, rfl⟩
  rw [HL.out]
  go_wp2_with fail
  refine (has_any _ _ 3 p 2 w1 HS1.out).mono ?_
  rintro e w2 ⟨rfl, m, rfl⟩
  rw [HH.out]
  go_wp2_with fail
  refine (other_any _ _ 3 p _ (HS1.out.drawn m)).mono ?_
  rintro e w2 ⟨rfl, hb2, hs2⟩
  have hm := below_drewN (Below.refl w1.heap.size w1) m
  have HB2 : Hid (Below w.heap.size w w2) := Lib.hid (HB1.out.trans ((hm.trans hb2).mono HB1.out.size))
  have HS2 := Lib.hid hs2
  have HS3 : Hid (SetAt (w.heap.size + 2) (w.heap.size + 1) w2 3 p) := Lib.hid ((HS1.out.drawn m).keep hb2)
  clear hb2 hs2 hm HS1 HB1
  go_wp2_with fail
  refine (list_any _ _ 3 (otherP 3 p) w2 HS2.out (tab_keep HT.out HB2.out)).mono ?_
  rintro e w3 ⟨a, c, rfl, hr3, hb3⟩
  rw [HO.out] at hr3 ⊢
  have HB3 : Hid (Below w.heap.size w w3) := Lib.hid (HB2.out.trans (hb3.mono HB2.out.size))
  have HS4 : Hid (SetAt (w.heap.size + 2) (w.heap.size + 1) w3 3 p) := Lib.hid (HS3.out.keep hb3)
  have HR3 := Lib.hid hr3
  clear hr3 hb3 HS2 HS3 HB2
  have hA3 := (Below.refl _ w3).alloc (Nat.le_refl _) (.cells #[.int .i64 1] 3)
  have HA3 := Lib.hid hA3
  clear hA3
  go_wp2_with fail
  refine (intsRef_any a (some ⟨w3.heap.size, 0, none⟩) c 1 [1] [1] _ (ReadsL.over HR3.out HA3.out (Nat.le_refl _)) (reads_one w3 3) (by decide)).mono ?_
  rintro e w4 ⟨rfl, m', rfl⟩
  rw [decide_eq_true rfl]
  go_wp2_with fail
  refine (parts_any _ _ 3 p 0 1 _ ((HS4.out.keep HA3.out).drawn m')).mono ?_
  rintro e w4 ⟨rfl, m'', rfl⟩
  rw [HPa.out]
  go_wp2
  go_ret
  exact ⟨rfl, below_drewN (HB3.out.trans (HA3.out.mono HB3.out.size)) _⟩
/-- What lies on: a set, a document's set, the table. -/
def Pair (b g n : Nat) (p : Nat → Bool) (a : Option Addr) (w : World) : Prop := SetAt b g w n p ∧ RefAt w a n p ∧ TabAt 0 Lib.deBruijn64tab w
theorem Pair.keep {b g n : Nat} {p : Nat → Bool} {a : Option Addr} {w w' : World} (h : Pair b g n p a w) (hb : Below w.heap.size w w') : Pair b g n p a w' :=
  ⟨h.1.keep hb, h.2.1.keep hb, tab_keep h.2.2 hb⟩
set_option maxHeartbeats 2000000 in
theorem same_true (b g n : Nat) (p : Nat → Bool) (a : Option Addr) (cap : Nat) (w : World) (h : Pair b g n p a w) :
    Calls Tryd.prog 9 #[.pointer (some ⟨b, 0, none⟩), .agg #[.int .i64 (n : Int), .slice a n cap]] w fun e w' => e = .returned (.bool true) ∧ Below w.heap.size w w' := by
  have hA := (Below.refl _ w).alloc (Nat.le_refl _) (.cells #[.int .i64 (n : Int), .slice a n cap] 28)
  have hP := h.keep hA
  have hT := TwoAt.new w (.int .i64 (n : Int)) (.slice a n cap) 28
  have HP := Lib.hid hP
  have HA := Lib.hid hA
  have HTw := Lib.hid hT
  have hn := h.1.1
  clear h hP hA hT
  go_enter Tryd.func9, Tryd.ntmps9
  go_wp2_with fail
  refine (listRef_any n hn p a cap _ HP.out.2.1).mono ?_
  rintro e w1 ⟨q, c, rfl, hr1, hb1⟩
  have HS : Hid (∀ W, Chain w1.heap.size w1 W → Pair b g n p a W ∧ ReadsL encN W.heap.size W q (listP p n) ∧ W.cell? ⟨w.heap.size, 0, none⟩ = some (.int .i64 (n : Int)) ∧ Below w.heap.size w W) := Lib.hid (fun W hW => by
    have hq := HP.out.keep hb1
    have ht := HTw.out.on hb1 HTw.out.lt
    have hz := HA.out.trans (hb1.mono HA.out.size)
    exact ⟨hq.keep hW.1, ReadsL.over hr1 hW.1 (Nat.le_refl _), (ht.on hW.1 ht.lt).1, hz.trans (hW.1.mono hz.size)⟩)
  have hlen : (listP p n).length ≤ 4096 := Nat.le_trans (listP_len _ _) hn
  have t0 := (HS.out w1 (ch_start w1)).2.2.1
  clear hr1 hb1 HTw HA HP
  go_wp2_with fail
  go_region_with (first
    | (go_at_call 24; refine (room_any b n _ (by obtain ⟨ws, -, -, -, t, -⟩ := (HS.out _ (by repeat (first | exact ch_start _ | apply ch_drew))).1.1.2.2.2.2; exact t.1)).mono ?_; rintro e w' ⟨rfl, rfl⟩)
    | (go_at_call 25; refine (len_any b g n p _ (HS.out _ (by repeat (first | exact ch_start _ | apply ch_drew))).1.1).mono ?_; rintro e w' ⟨rfl, rfl⟩)
    | (go_at_call 26; refine (list_any b g n p _ (HS.out _ (by repeat (first | exact ch_start _ | apply ch_drew))).1.1 (HS.out _ (by repeat (first | exact ch_start _ | apply ch_drew))).1.2.2).mono ?_; rintro e w2 ⟨q2, c2, rfl, hr2, hb2⟩; have HR2 := Lib.hid hr2; have HB2 : Hid (Below w.heap.size w w2) := Lib.hid ((HS.out w1 (ch_start w1)).2.2.2.trans (((ch_drew (ch_start w1)).1.trans hb2).mono (HS.out w1 (ch_start w1)).2.2.2.size)); have HQ2 := Lib.hid (ReadsL.over (HS.out _ (ch_drew (ch_start w1))).2.1 hb2 (Nat.le_refl _)); clear hr2 hb2)
    | (go_at_call 21; refine (intsRef_any q2 q c2 c (listP p n) (listP p n) _ HR2.out HQ2.out (by omega)).mono ?_; rintro e w3 ⟨rfl, m, rfl⟩; rw [decide_eq_true rfl]))
  all_goals (go_wp2; go_ret; exact ⟨rfl, below_drewN HB2.out _⟩)
end Go.Proofs.YtkhkejfpoaleoaaDoor
