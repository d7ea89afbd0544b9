/- Contracts for the text of numbers: the program's, and the document's own. -/
import Derived.Test.YtdianpdjcgcifaaDoorDecRefNat
import Derived.Test.YtdianpdjcgcifaaDoorDecParts
import Derived.Test.YtdianpdjcgcifaaDoorList
namespace Go.Proofs.YtdianpdjcgcifaaDoor
open Go.RowKit Go.ChangeShapes DecPure
theorem builder_on {T e : TypeId} {B b : Nat} {bs : List Value} {w w' : World} (h : Lib.IsBuilder T e B b bs w) (hb : Below w.heap.size w w') : Lib.IsBuilder T e B b bs w' := by
  have one : ∀ p, Lib.BuilderAt T e B b p bs w → Lib.BuilderAt T e B b p bs w' := fun p h => by
    have hlt := h.lt
    obtain ⟨h1, v, h2, h3, h4⟩ := h
    exact ⟨h1, v, (hb.block b hlt).trans h2, owns_below h3 hb, h4⟩
  rcases h with h | h
  · exact Or.inl (one _ h)
  · exact Or.inr (one _ h)
/-- The text of the first k numbers. -/
def textTo (l : List Int) (k : Nat) : List UInt8 := listT (l.take k)
theorem text_next {l : List Int} {k : Nat} (h : k < l.length) : textTo l (k + 1) = (if k = 0 then [] else textTo l k ++ [32]) ++ Lib.itoa l[k] := by
  unfold textTo listT
  rw [take_snoc l k h, List.map_append]
  by_cases h0 : k = 0
  · subst h0; rfl
  · rw [if_neg h0]
    have hne : (l.take k).map Lib.itoa ≠ [] := by
      intro e
      have e2 := congrArg List.length (List.map_eq_nil_iff.1 e)
      rw [List.length_take] at e2
      simp only [List.length_nil] at e2
      omega
    show joinB ((l.take k).map Lib.itoa ++ [Lib.itoa l[k]]) = _
    rw [join_snoc _ _ hne, List.append_assoc]; rfl
theorem text_len {l : List Int} (h : RngL l) (k : Nat) (hk : k ≤ l.length) : (textTo l k).length ≤ 22 * k := by
  have := list_len (l.take k) fun n hn => h n (List.mem_of_mem_take hn)
  rw [List.length_take] at this
  unfold textTo
  omega
/-- At the head of a round of List. -/
def ListRel (w0 : World) (l : List Int) (k : Nat) (w : World) : Prop :=
  Below w0.heap.size w0 w ∧ Lib.IsBuilder 55 5 w0.heap.size w0.heap.size (Lib.byteCells (textTo l k)) w
set_option maxHeartbeats 2000000 in
theorem list_any (a : Option Addr) (cap : Nat) (l : List Int) (w : World) (hr : RngL l) (hl : ReadsL (encInt .i64) w.heap.size w a l) (hlen : l.length ≤ 100000) (hT : Ten w) :
    Calls Tryd.prog 16 #[.slice a l.length cap] w fun e w' => e = .returned (.string ⟨(listT l).toArray⟩) ∧ Below w.heap.size w w' := by
  have hB0 := (Below.refl w.heap.size w).alloc (Nat.le_refl _) (.cells #[.pointer none, .slice none 0 0] 55)
  have HS : Hid (ListRel w l 0 (w.alloc (.cells #[.pointer none, .slice none 0 0] 55))) := Lib.hid ⟨hB0, Lib.fresh_isBuilder _ _ w⟩
  have HL := Lib.hid hl
  have HR := Lib.hid hr
  have HT := Lib.hid hT
  clear hT hl hr hB0
  go_enter Tryd.func16, Tryd.ntmps16
  go_wp2
  go_loopw [8] (fun i wr => ∃ k : Nat, i = .int .i64 k ∧ k ≤ l.length ∧ Hid (ListRel w l k wr)) (fun i _ => l.length - (intOf i).toNat)
  case atStart => exact ⟨0, rfl, Nat.zero_le _, HS⟩
  case round =>
    obtain ⟨k, rfl, hk, HF⟩ := hrel
    by_cases hlt : k < l.length
    · obtain ⟨b, off, rfl, hbN, hck⟩ := (HL.out.on HF.out.1).at hlt
      unfold encInt at hck
      have hrn := HR.out l[k] (List.getElem_mem hlt)
      have HN := Lib.hid (text_next hlt)
      have HTL := Lib.hid (text_len HR.out k hk)
      have hsz := HF.out.1.size
      have HIL := Lib.hid (Lib.itoa_length_le l[k] hrn.1 hrn.2)
      generalize l[k] = x at *
      by_cases h0 : k = 0
      · have HN' : Hid (textTo l (k + 1) = Lib.itoa x) := Lib.hid (by rw [HN.out, if_pos h0]; rfl)
        have HE : Hid (textTo l k = []) := Lib.hid (by subst h0; rfl)
        have g0 : ¬ (0 : Int) < (k : Int) := by omega
        clear h0
        have HUE : Hid (Lib.IsBuilder 55 5 w.heap.size w.heap.size (Lib.byteCells []) wr) := Lib.hid (by have h := HF.out.2; rw [HE.out] at h; exact h)
        have HLE : Hid (([] : List UInt8).length + (⟨(Lib.itoa x).toArray⟩ : ByteArray).size ≤ 140737488355328) := Lib.hid (by have h1 := HIL.out; show 0 + (Lib.itoa x).toArray.size ≤ _; rw [List.size_toArray]; omega)
        have HBR := Lib.hid HF.out.1
        go_wp2_with fail
        refine (print_any x hrn.1 hrn.2 wr (HT.out.on HBR.out)).mono ?_
        rintro e w1 ⟨rfl, hb1⟩
        have HU1 := Lib.hid (builder_on HUE.out hb1)
        have HB1 := Lib.hid (HBR.out.trans (hb1.mono HBR.out.size))
        have hsz1 := HB1.out.size
        clear hb1
        go_wp2_with fail
        refine (Tryd.Builder_WriteString w.heap.size w.heap.size _ ⟨(Lib.itoa x).toArray⟩ w1 HU1.out (by rw [Lib.byteCells_length]; exact HLE.out) hsz1).mono ?_
        rintro e w2 ⟨rfl, hu2, hb2⟩
        have HW : Hid (ListRel w l (k + 1) w2) := Lib.hid ⟨HB1.out.trans hb2, by
          rw [HN'.out, ← List.nil_append (Lib.itoa x), Lib.byteCells_append]
          exact Or.inr hu2⟩
        clear hu2 hb2
        go_wp2
        go_roundw
        case rel => exact ⟨k + 1, by go_num, hlt, HW⟩
        case measure => simp [intOf]; omega
      · have HN' : Hid (textTo l (k + 1) = (textTo l k ++ [32]) ++ Lib.itoa x) := Lib.hid (by rw [HN.out, if_neg h0])
        have g0 : (0 : Int) < (k : Int) := by omega
        clear h0
        go_wp2_with fail
        refine (Tryd.Builder_WriteString w.heap.size w.heap.size _ ⟨#[32]⟩ wr HF.out.2 (by rw [Lib.byteCells_length]; have h1 := HTL.out; show _ + 1 ≤ _; omega) hsz).mono ?_
        rintro e w0 ⟨rfl, hu0, hb0⟩
        have HBR := Lib.hid (HF.out.1.trans hb0)
        have HUE : Hid (Lib.IsBuilder 55 5 w.heap.size w.heap.size (Lib.byteCells (textTo l k ++ [32])) w0) := Lib.hid (by rw [Lib.byteCells_append]; exact Or.inr hu0)
        have HLE : Hid ((textTo l k ++ [32]).length + (⟨(Lib.itoa x).toArray⟩ : ByteArray).size ≤ 140737488355328) := Lib.hid (by have h1 := HIL.out; have h2 := HTL.out; show _ + (Lib.itoa x).toArray.size ≤ _; rw [List.size_toArray, List.length_append]; simp; omega)
        clear hu0 hb0
        go_wp2_with fail
        refine (print_any x hrn.1 hrn.2 w0 (HT.out.on HBR.out)).mono ?_
        rintro e w1 ⟨rfl, hb1⟩
        have HU1 := Lib.hid (builder_on HUE.out hb1)
        have HB1 := Lib.hid (HBR.out.trans (hb1.mono HBR.out.size))
        have hsz1 := HB1.out.size
        clear hb1
        go_wp2_with fail
        refine (Tryd.Builder_WriteString w.heap.size w.heap.size _ ⟨(Lib.itoa x).toArray⟩ w1 HU1.out (by rw [Lib.byteCells_length]; exact HLE.out) hsz1).mono ?_
        rintro e w2 ⟨rfl, hu2, hb2⟩
        have HW : Hid (ListRel w l (k + 1) w2) := Lib.hid ⟨HB1.out.trans hb2, by
          rw [HN'.out, Lib.byteCells_append]
          exact Or.inr hu2⟩
        clear hu2 hb2
        go_wp2
        go_roundw
        case rel => exact ⟨k + 1, by go_num, hlt, HW⟩
        case measure => simp [intOf]; omega
    · have hke : k = l.length := by omega
      have HE : Hid (textTo l k = listT l) := Lib.hid (by unfold textTo; rw [hke, List.take_length])
      have hsz := HF.out.1.size
      have HU := HF.out.2
      rw [HE.out] at HU
      have HUU := Lib.hid HU
      clear HU
      go_wp2_with fail
      refine (Tryd.Builder_String_any w.heap.size w.heap.size _ wr HUU.out hsz).mono ?_
      rintro e w2 ⟨rfl, hb2⟩
      have HB2 := Lib.hid (HF.out.1.trans hb2)
      clear hb2
      go_wp2
      go_ret
      exact ⟨rfl, HB2.out⟩
theorem cat_bytes (x y : List UInt8) : (⟨x.toArray⟩ : ByteArray) ++ ⟨y.toArray⟩ = ⟨(x ++ y).toArray⟩ := ByteArray.mk_append_mk x y
set_option maxHeartbeats 2000000 in
theorem refList_any (a : Option Addr) (cap : Nat) (l : List Int) (w : World) (hr : RngL l) (hl : ReadsL (encInt .i64) w.heap.size w a l) (hlen : l.length ≤ 1000) :
    Calls Tryd.prog 17 #[.slice a l.length cap] w fun e w' => e = .returned (.string ⟨(listT l).toArray⟩) ∧ Below w.heap.size w w' := by
  have HL := Lib.hid hl
  have HR := Lib.hid hr
  have HS := Lib.hid (Below.refl w.heap.size w)
  have H0 : Hid (textTo l 0 = []) := Lib.hid rfl
  clear hl hr
  go_enter Tryd.func17, Tryd.ntmps17
  go_wp2
  go_loopw [3, 4] (fun t i wr => ∃ (k : Nat) (T : ByteArray), i = .int .i64 k ∧ k ≤ l.length ∧ t = .string T ∧ Hid (T = ⟨(textTo l k).toArray⟩) ∧ Hid (Below w.heap.size w wr)) (fun _ i _ => l.length - (intOf i).toNat)
  case atStart => exact ⟨0, ⟨#[]⟩, rfl, Nat.zero_le _, rfl, Lib.hid (by rw [H0.out]), HS⟩
  case round =>
    obtain ⟨k, T, rfl, hk, rfl, HT, HB⟩ := hrel
    by_cases hlt : k < l.length
    · obtain ⟨b, off, rfl, hbN, hck⟩ := (HL.out.on HB.out).at hlt
      unfold encInt at hck
      have hrn := HR.out l[k] (List.getElem_mem hlt)
      have HN := Lib.hid (text_next hlt)
      have HTL := Lib.hid (text_len HR.out k hk)
      have HIL := Lib.hid (Lib.itoa_length_le l[k] hrn.1 hrn.2)
      have HSZ : Hid (T.size ≤ 22000) := Lib.hid (by have := HTL.out; rw [HT.out]; show (textTo l k).toArray.size ≤ _; rw [List.size_toArray]; omega)
      have HP := Lib.hid (refPrint_any l[k] hrn.1 hrn.2 wr)
      obtain ⟨X, hX⟩ : ∃ X : ByteArray, X = ⟨(Lib.itoa l[k]).toArray⟩ := ⟨_, rfl⟩
      have HXS : Hid (X.size ≤ 21) := Lib.hid (by have := HIL.out; rw [hX]; show (Lib.itoa l[k]).toArray.size ≤ _; rw [List.size_toArray]; omega)
      rw [← hX] at HP
      have HX := Lib.hid hX
      clear hX
      generalize l[k] = x at *
      by_cases h0 : k = 0
      · have HN' : Hid (T ++ X = ⟨(textTo l (k + 1)).toArray⟩) := Lib.hid (by
          rw [HT.out, HX.out, cat_bytes, HN.out, if_pos h0]
          subst h0; rw [H0.out])
        have g0 : ¬ (0 : Int) < (k : Int) := by omega
        have t1 := HSZ.out
        have t2 := HXS.out
        clear h0
        go_wp2_with fail
        refine HP.out.mono ?_
        rintro e w1 ⟨rfl, hb1⟩
        have HB1 := Lib.hid (HB.out.trans (hb1.mono HB.out.size))
        clear hb1
        go_wp2
        go_roundw
        case rel => exact ⟨k + 1, _, by go_num, hlt, rfl, HN', HB1⟩
        case measure => simp [intOf]; omega
      · have HN' : Hid (T ++ ⟨#[32]⟩ ++ X = ⟨(textTo l (k + 1)).toArray⟩) := Lib.hid (by
          rw [HT.out, HX.out, HN.out, if_neg h0]
          rw [show (⟨#[32]⟩ : ByteArray) = ⟨[32].toArray⟩ from rfl, cat_bytes, cat_bytes])
        have g0 : (0 : Int) < (k : Int) := by omega
        have t1 := HSZ.out
        have t2 := HXS.out
        clear h0
        go_wp2_with fail
        refine HP.out.mono ?_
        rintro e w1 ⟨rfl, hb1⟩
        have HB1 := Lib.hid (HB.out.trans (hb1.mono HB.out.size))
        clear hb1
        go_wp2
        go_roundw
        case rel => exact ⟨k + 1, _, by go_num, hlt, rfl, HN', HB1⟩
        case measure => simp [intOf]; omega
    · have hke : k = l.length := by omega
      have HE : Hid (T = ⟨(listT l).toArray⟩) := Lib.hid (by rw [HT.out]; unfold textTo; rw [hke, List.take_length])
      go_wp2
      go_ret
      refine ⟨?_, HB.out⟩
      rw [← HE.out]; rfl
end Go.Proofs.YtdianpdjcgcifaaDoor
