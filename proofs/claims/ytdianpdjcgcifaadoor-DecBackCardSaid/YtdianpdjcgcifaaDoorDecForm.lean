/- Contracts for the document's own answers on what a text says: is it a number's, and which. -/
import Derived.Test.YtdianpdjcgcifaaDoorDecRef
import Derived.Test.YtdianpdjcgcifaaDoorCells
namespace Go.Proofs.YtdianpdjcgcifaaDoor
open Go.RowKit Go.ChangeShapes DecPure
theorem tail_bytes {s : ByteArray} (h : negB s.data.toList = true) : (s.extract 1 s.size).data.toList = tailD s.data.toList ∧ 0 < s.size ∧ s.data.toList.length = (tailD s.data.toList).length + 1 := by
  have h1 := neg_true h
  have h2 : s.data.toList.length = (tailD s.data.toList).length + 1 := by
    have := congrArg List.length h1
    simpa using this
  refine ⟨?_, by have : s.size = s.data.toList.length := Lib.size_eq s; omega, h2⟩
  rw [Lib.extract_eq]
  show List.take (s.size - 1) (List.drop 1 s.data.toList) = _
  have h3 : List.drop 1 s.data.toList = tailD s.data.toList := by
    conv => lhs; rw [h1]
    rfl
  rw [h3, List.take_of_length_le]
  have : s.size = s.data.toList.length := Lib.size_eq s
  omega
theorem neg_at {s : ByteArray} (h0 : 0 < s.size) : negB s.data.toList = (s[0] == 45) := by
  have hh : s.data.toList.head? = some s[0] := by
    rw [List.head?_eq_getElem?, List.getElem?_eq_getElem (by simpa using h0)]; rfl
  unfold negB
  rw [hh]
  by_cases hx : s[0] = 45
  · rw [hx]; rfl
  · rw [beq_eq_false_iff_ne.2 hx, beq_eq_false_iff_ne.2 (fun e => hx (Option.some.inj e))]
theorem neg_size {s : ByteArray} (h0 : ¬ 0 < s.size) : negB s.data.toList = false := by
  have : s.data.toList = [] := List.length_eq_zero_iff.1 (by have := Lib.size_eq s; omega)
  rw [this]; rfl
theorem byte_is (c k : UInt8) : (((c.toNat : Nat) : Int) == ((k.toNat : Nat) : Int)) = (c == k) := by
  by_cases h : c = k
  · subst h; simp
  · rw [beq_eq_false_iff_ne.2 h, beq_eq_false_iff_ne]
    intro e
    exact h (UInt8.toNat.inj (by omega))
theorem size_void {D : ByteArray} (e : D.toList = []) : ¬ 0 < D.size := by
  rw [Lib.size_eq, ← Lib.toList_data, e]; simp
set_option maxHeartbeats 2000000 in
theorem refForm_any (s : ByteArray) (hs : s.size ≤ 9223372036854775807) (w : World) :
    Calls Tryd.prog 21 #[.string s] w fun e w' => e = .returned (.bool (formB s.data.toList)) ∧ w = w' := by
  have HF : Hid (formB s.data.toList = (plainB (tailD s.data.toList) && !(negB s.data.toList && tailD s.data.toList == [48]))) := Lib.hid rfl
  by_cases h0 : 0 < s.size
  · have hn := neg_at h0
    have hb := byte_is s[0] 45
    cases hng : negB s.data.toList with
    | true =>
      obtain ⟨t1, -, t3⟩ := tail_bytes hng
      have hsz : (s.extract 1 s.size).size ≤ 9223372036854775807 := by
        have e1 := Lib.size_eq (s.extract 1 s.size)
        have e2 := Lib.size_eq s
        rw [t1] at e1
        omega
      have hb2 : (((s[0].toNat : Nat) : Int) == 45) = true := by rw [← hng, hn, ← hb]; rfl
      rw [hng, ← t1] at HF
      have HE : Hid (∀ D : ByteArray, D = s.extract 1 s.size → formB s.data.toList = (plainB D.data.toList && !(D.toList == [48]))) := Lib.hid fun D hD => by rw [hD, HF.out, Lib.toList_data]; rfl
      clear hn hb hng t1 t3 HF
      generalize formB s.data.toList = fm at *
      have HX := Lib.hid (HE.out _ rfl)
      clear HE
      cases h48 : ((s.extract 1 s.size).toList == [48]) with
      | true =>
        have HFm : Hid (fm = false) := Lib.hid (by rw [HX.out, h48]; simp)
        clear HX
        go_enter Tryd.func21, Tryd.ntmps21
        go_wp2
        go_ret
        exact ⟨bool_ret HFm.out.symm, rfl⟩
      | false =>
        have HFm : Hid (fm = plainB (s.extract 1 s.size).data.toList) := Lib.hid (by rw [HX.out, h48]; simp)
        clear HX
        go_enter Tryd.func21, Tryd.ntmps21
        go_wp2
        clear h48
        generalize s.extract 1 s.size = D at *
        go_loop [3] (fun i => ∃ k : Nat, i = .int .i64 k ∧ Hid (DigTo D k)) (fun i => D.size - (intOf i).toNat)
        case atStart => exact ⟨0, rfl, Lib.hid ⟨Nat.zero_le _, fun c hc => by simp at hc⟩⟩
        case round =>
          obtain ⟨k, rfl, HD⟩ := hrel
          by_cases hp : k < D.size
          · cases hd : dig D[k] with
            | true =>
              obtain ⟨h1, h2⟩ := (dig_iff _).1 hd
              have HN := Lib.hid (digTo_next HD.out hp hd)
              have g1 : (48 : Int) ≤ (D[k].toNat : Int) := by omega
              have g2 : (D[k].toNat : Int) ≤ 57 := by omega
              clear hd h1 h2
              go_wp2
              go_round
              case rel => exact ⟨k + 1, by go_num, HN⟩
              case measure => simp [intOf]; omega
            | false =>
              have HX := Lib.hid (plain_no hp hd)
              rcases (dig_not _).1 hd with hr | hr
              · have g : (D[k].toNat : Int) < 48 := by omega
                clear hd hr
                go_wp2
                go_ret
                exact ⟨bool_ret (by rw [HFm.out, HX.out]), rfl⟩
              · have g : (57 : Int) < (D[k].toNat : Int) := by omega
                clear hd hr
                go_wp2
                go_ret
                exact ⟨bool_ret (by rw [HFm.out, HX.out]), rfl⟩
          · have hk : k = D.size := Nat.le_antisymm HD.out.1 (Nat.le_of_not_lt hp)
            have HA := Lib.hid (digTo_all hk HD.out)
            clear hk
            by_cases e3 : 0 < D.size
            · cases e1 : (D.toList == [48]) with
              | true =>
                go_wp2
                go_ret
                exact ⟨bool_ret (by rw [HFm.out, plain_lone (by simpa using e1)]), rfl⟩
              | false =>
                have HB : Hid (plainB D.data.toList = (((D[0].toNat : Nat) : Int) != 48)) := Lib.hid (by rw [byte_ne]; exact plain_head HA.out (by simpa using e1) (fun e => size_void e e3) e3)
                go_wp2
                go_ret
                exact ⟨bool_ret (by rw [HFm.out, HB.out]), rfl⟩
            · have e2 : D.toList = [] := by rw [Lib.toList_data]; exact List.length_eq_zero_iff.1 (by have := Lib.size_eq D; omega)
              have HB := Lib.hid (plain_void e2)
              clear e2
              go_wp2
              go_ret
              exact ⟨bool_ret (by rw [HFm.out, HB.out]), rfl⟩
    | false =>
      have hb2 : (((s[0].toNat : Nat) : Int) == 45) = false := by rw [← hng, hn, ← hb]; rfl
      have ht := neg_false hng
      rw [hng, ht] at HF
      have HFm : Hid (formB s.data.toList = plainB s.data.toList) := Lib.hid (by rw [HF.out]; simp)
      clear hn hb hng ht HF
      generalize formB s.data.toList = fm at *
      go_enter Tryd.func21, Tryd.ntmps21
      go_wp2
      go_loop [3] (fun i => ∃ k : Nat, i = .int .i64 k ∧ Hid (DigTo s k)) (fun i => s.size - (intOf i).toNat)
      case atStart => exact ⟨0, rfl, Lib.hid ⟨Nat.zero_le _, fun c hc => by simp at hc⟩⟩
      case round =>
        obtain ⟨k, rfl, HD⟩ := hrel
        by_cases hp : k < s.size
        · cases hd : dig s[k] with
          | true =>
            obtain ⟨h1, h2⟩ := (dig_iff _).1 hd
            have HN := Lib.hid (digTo_next HD.out hp hd)
            have g1 : (48 : Int) ≤ (s[k].toNat : Int) := by omega
            have g2 : (s[k].toNat : Int) ≤ 57 := by omega
            clear hd h1 h2
            go_wp2
            go_round
            case rel => exact ⟨k + 1, by go_num, HN⟩
            case measure => simp [intOf]; omega
          | false =>
            have HX := Lib.hid (plain_no hp hd)
            rcases (dig_not _).1 hd with hr | hr
            · have g : (s[k].toNat : Int) < 48 := by omega
              clear hd hr
              go_wp2
              go_ret
              exact ⟨bool_ret (by rw [HFm.out, HX.out]), rfl⟩
            · have g : (57 : Int) < (s[k].toNat : Int) := by omega
              clear hd hr
              go_wp2
              go_ret
              exact ⟨bool_ret (by rw [HFm.out, HX.out]), rfl⟩
        · have hk : k = s.size := Nat.le_antisymm HD.out.1 (Nat.le_of_not_lt hp)
          have HA := Lib.hid (digTo_all hk HD.out)
          clear hk
          by_cases e3 : 0 < s.size
          · cases e1 : (s.toList == [48]) with
            | true =>
              go_wp2
              go_ret
              exact ⟨bool_ret (by rw [HFm.out, plain_lone (by simpa using e1)]), rfl⟩
            | false =>
              have HB : Hid (plainB s.data.toList = (((s[0].toNat : Nat) : Int) != 48)) := Lib.hid (by rw [byte_ne]; exact plain_head HA.out (by simpa using e1) (fun e => size_void e e3) e3)
              go_wp2
              go_ret
              exact ⟨bool_ret (by rw [HFm.out, HB.out]), rfl⟩
          · exact absurd h0 e3
  · have hng := neg_size h0
    have ht := neg_false hng
    rw [hng, ht] at HF
    have HFm : Hid (formB s.data.toList = plainB s.data.toList) := Lib.hid (by rw [HF.out]; simp)
    clear hng ht HF
    generalize formB s.data.toList = fm at *
    go_enter Tryd.func21, Tryd.ntmps21
    go_wp2
    go_loop [3] (fun i => ∃ k : Nat, i = .int .i64 k ∧ Hid (DigTo s k)) (fun i => s.size - (intOf i).toNat)
    case atStart => exact ⟨0, rfl, Lib.hid ⟨Nat.zero_le _, fun c hc => by simp at hc⟩⟩
    case round =>
      obtain ⟨k, rfl, HD⟩ := hrel
      by_cases hp : k < s.size
      · exact absurd (by omega) h0
      · have e2 : s.toList = [] := by rw [Lib.toList_data]; exact List.length_eq_zero_iff.1 (by have := Lib.size_eq s; omega)
        have HB := Lib.hid (plain_void e2)
        clear e2
        go_wp2
        go_ret
        exact ⟨bool_ret (by rw [HFm.out, HB.out]), rfl⟩
end Go.Proofs.YtdianpdjcgcifaaDoor
