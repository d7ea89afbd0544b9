/- Texts that the laws of this seat stand on, part 33. -/
import Derived.Test.YtdbebebhldldmaaGreatDoorPk32
import Derived.Test.YtdbebebhldldmaaGreatDoorPk29
import Derived.Defers
import Derived.Recover
import Derived.BigRegion
import Derived.Test.YtdbebebhldldmaaGreatDoorPk27
import Derived.Test.YtdbebebhldldmaaGreatDoorPk28
import Derived.Test.YtdbebebhldldmaaGreatDoorPk2
import Derived.Test.YtdbebebhldldmaaGreatDoorPk0
import Derived.Deep.RegionWith
import Derived.IntWalk
import Derived.Test.YtdbebebhldldmaaGreatDoorPk9
import Derived.Test.YtdbebebhldldmaaGreatDoorPk12
/- A contract for the program's Read: what leaves by a panic is taken back. -/
namespace Go.Proofs.YtdbebebhldldmaaGreatDoor.Gr
open Go.RowKit Go.ChangeShapes DecPure WordPure GrPure EdPure NtPure Str
theorem assert_stop (v : Value) (w : World) : (Instr.typeAssert (.iface 92 v) 20 92 true).run Tryz.prog w = .ok (.tuple #[v, .bool true]) w := by
  simp [Instr.typeAssert, run_underlying Tryz.underlying92, go_sem]
theorem assert_nil (w : World) : (Instr.typeAssert .nilIface 20 92 true).run Tryz.prog w = .ok (.tuple #[.agg #[.int .i64 0, .int .i64 0], .bool false]) w := by
  simp [Instr.typeAssert, run_underlying Tryz.underlying92, go_sem]
theorem catch_idle (p q r : Addr) (w : World) :
    CallsD Tryz.prog 46 #[.pointer (some p), .pointer (some q), .pointer (some r)] .returning w fun e u' w' => e = .returned (.tuple #[]) ∧ u' = .returning ∧ Below w.heap.size w w' := by
  have hB := Lib.hid ((Below.refl w.heap.size w).alloc (Nat.le_refl _) (.cells #[.int .i64 0, .int .i64 0] 92))
  have ha := assert_nil
  refine callsD_of_wpS Tryz.func46 rfl fun c₀ cs hu => ?_
  apply wpS_seq
  apply wpS_region
  simp [wpOpsS, go_sem, recoverD, hu, ha, Tryz.ntmps46, Exit.thenS]
  change Code.wpS _ _ _ { tmps := #[.pointer (some p), .pointer (some q), .pointer (some r), .pointer (some ⟨w.heap.size, 0, none⟩), .bool false, .tuple #[.agg #[.int .i64 0, .int .i64 0], .bool false], .nilIface, .tuple #[.agg #[.int .i64 0, .int .i64 0], .bool false], .agg #[.int .i64 0, .int .i64 0], .bool false, undef, undef, undef, undef, undef], defers := [] } _ _
  refine wpS_of_wp ?_
  go_wp2
  cases c₀
  simp_all [bodyPostS, results, Tryz.results46]
  exact hB.out
theorem slots_eq (p q r t u v x y z : Value) : #[p, q, r] ++ (((((((Array.replicate 12 undef).setIfInBounds 3 t).setIfInBounds 4 u).setIfInBounds 2 v).setIfInBounds 5 x).setIfInBounds 6 y).setIfInBounds 0 z).setIfInBounds 1 y = #[p, q, r, z, y, v, t, u, x, y, undef, undef, undef, undef, undef] := by simp [Array.replicate]
set_option maxHeartbeats 1000000 in
theorem catch_stop (N L R : Nat) (E K : Int) (w : World) (h01 : N < L) (h12 : L < R) (g : Value) (hg : CellAt N w g) (h0 : CellAt L w (.int .i64 0)) (h1 : CellAt R w (.int .i64 0)) :
    CallsD Tryz.prog 46 #[.pointer (some ⟨N, 0, none⟩), .pointer (some ⟨L, 0, none⟩), .pointer (some ⟨R, 0, none⟩)] (.panicking ({ v := .iface 92 (.agg #[.int .i64 E, .int .i64 K]), recovered := false } :: [])) w fun e u' w' =>
      e = .returned (.tuple #[]) ∧ u' = .panicking ({ v := .iface 92 (.agg #[.int .i64 E, .int .i64 K]), recovered := true } :: []) ∧ Below N w w' ∧ CellAt N w' (.pointer none) ∧ CellAt L w' (.int .i64 E) ∧ CellAt R w' (.int .i64 K) := by
  have ha := assert_stop
  have lg := hg.lt
  have l0 := h0.lt
  have l1 := h1.lt
  refine callsD_of_wpS Tryz.func46 rfl fun c₀ cs hu => ?_
  apply wpS_seq
  apply wpS_region
  simp [wpOpsS, go_sem, recoverD, hu, ha, Tryz.ntmps46, Exit.thenS]
  rw [slots_eq]
  refine wpS_of_wp ?_
  have HG := Lib.hid hg
  have HC0 := Lib.hid h0
  have HC1 := Lib.hid h1
  have n1 : N ≠ L := by omega
  have n2 : L ≠ N := by omega
  have n3 : N ≠ R := by omega
  have n4 : R ≠ N := by omega
  have n5 : L ≠ R := by omega
  have n6 : R ≠ L := by omega
  obtain ⟨cg, fg⟩ := hg
  obtain ⟨c0, f0⟩ := h0
  obtain ⟨c1, f1⟩ := h1
  go_wp2
  go_region
  refine ⟨rfl, _, rfl, _, results_none rfl _ _ _, rfl, rfl, ?_, ?_, ?_, ?_⟩
  · exact (((((Below.refl N w).setCell (p := ⟨N, 0, none⟩) (Nat.le_refl _) _).setCell (p := ⟨L, 0, none⟩) (Nat.le_of_lt h01) _).setCell (p := ⟨R, 0, none⟩) (by show N ≤ R; omega) _).alloc (by simp; omega) _).drew
  · exact (((HG.out.set _).past (M := L) n2 _).past (M := R) n4 _).on (((Below.refl w.heap.size _).alloc (by simp) _).drew) lg
  · exact (((HC0.out.past (M := N) n1 _).set _).past (M := R) n6 _).on (((Below.refl w.heap.size _).alloc (by simp) _).drew) l0
  · exact (((HC1.out.past (M := N) n3 _).past (M := L) n5 _).set _).on (((Below.refl w.heap.size _).alloc (by simp) _).drew) l1
theorem hmf : ∀ (fn : Fn) (first cap : Array Value) (w : World), (Instr.makeFunc fn first cap).run Tryz.prog w = .ok (.func fn first cap) w := fun _ _ _ _ => rfl
theorem three_new (w : World) (u v x : Value) (T1 T2 T3 : TypeId) : CellAt w.heap.size (((w.alloc (.cells #[u] T1)).alloc (.cells #[v] T2)).alloc (.cells #[x] T3)) u ∧ CellAt (w.heap.size + 1) (((w.alloc (.cells #[u] T1)).alloc (.cells #[v] T2)).alloc (.cells #[x] T3)) v ∧ CellAt (w.heap.size + 2) (((w.alloc (.cells #[u] T1)).alloc (.cells #[v] T2)).alloc (.cells #[x] T3)) x := by
  refine ⟨((CellAt.new w u T1).keep ((Below.refl _ _).alloc (Nat.le_refl _) _)).keep ((Below.refl _ _).alloc (Nat.le_refl _) _), ?_, ?_⟩
  · have := (CellAt.new (w.alloc (.cells #[u] T1)) v T2).keep ((Below.refl _ _).alloc (Nat.le_refl _) (.cells #[x] T3))
    simpa using this
  · have := CellAt.new ((w.alloc (.cells #[u] T1)).alloc (.cells #[v] T2)) x T3
    simpa using this
theorem good_nil : GoodN ((0 : Nat) : Int) [] := ⟨GoodM.nil, by simp, by simp [allW]⟩
/-- What is no pointer stays. -/
def Stays (w w' : World) : Prop := w.heap.size ≤ w'.heap.size ∧ ∀ b i v, (∀ r, v ≠ .pointer r) → w.cell? ⟨b, i, none⟩ = some v → w'.cell? ⟨b, i, none⟩ = some v
theorem Stays.trans {a b c : World} (h : Stays a b) (k : Stays b c) : Stays a c := ⟨Nat.le_trans h.1 k.1, fun _ _ _ hv hc => k.2 _ _ _ hv (h.2 _ _ _ hv hc)⟩
theorem Stays.cell {w : World} {X : Nat} {u v : Value} (h : w.cell? ⟨X, 0, none⟩ = some u) (hv : u = v ∨ ∃ r, u = .pointer r) : Stays w (w.setCell ⟨X, 0, none⟩ v) := by
  refine ⟨by simp, fun b i x hx hc => ?_⟩
  by_cases he : (⟨X, 0, none⟩ : Addr) = ⟨b, i, none⟩
  · rw [← he] at hc ⊢
    rw [h] at hc
    rcases hv with rfl | ⟨r, rfl⟩
    · rw [← hc]; exact World.cell?_setCell_same _ _ _ h
    · exact absurd (Option.some.inj hc).symm (hx r)
  · exact (World.cell?_setCell_other w ⟨X, 0, none⟩ ⟨b, i, none⟩ _ he).trans hc
theorem reads_stay {N : Nat} {w w' : World} {q : Option Addr} {l : List Int} (h : ReadsL encZ N w q l) (hs : Stays w w') : ReadsL encZ N w' q l := by
  rcases h with h | ⟨b, off, h1, h2, h3⟩
  · exact Or.inl h
  · exact Or.inr ⟨b, off, h1, h2, fun i hi => hs.2 _ _ _ (fun r e => by unfold encZ at e; cases e) (h3 i hi)⟩
theorem net_stay {p : Option Addr} {n : Nat} {M : List Ed} {w w' : World} (h : NetAt p n M w) (hs : Stays w w') : NetAt p n M w' := by
  rcases h with h | ⟨g, pv, cv, pe, ce, h1, h2, h3, h4, h5, h6⟩
  · exact Or.inl h
  · refine Or.inr ⟨g, pv, cv, pe, ce, h1, Nat.lt_of_lt_of_le h2 hs.1, hs.2 _ _ _ (fun r e => by cases e) h3, hs.2 _ _ _ (fun r e => by cases e) h4, ?_, ?_⟩
    · rcases h5 with h5 | ⟨b, off, e1, e2, e3⟩
      · exact Or.inl h5
      · exact Or.inr ⟨b, off, e1, Nat.lt_of_lt_of_le e2 hs.1, fun i hi => ⟨hs.2 _ _ _ (fun r e => by cases e) (e3 i hi).1, hs.2 _ _ _ (fun r e => by cases e) (e3 i hi).2.1, hs.2 _ _ _ (fun r e => by cases e) (e3 i hi).2.2⟩⟩
    · rcases h6 with h6 | ⟨b, off, e1, e2, e3⟩
      · exact Or.inl h6
      · refine Or.inr ⟨b, off, e1, Nat.lt_of_lt_of_le e2 hs.1, fun i hi => ?_⟩
        obtain ⟨k1, q, c, k2, k3⟩ := e3 i hi
        exact ⟨hs.2 _ _ _ (fun r e => by cases e) k1, q, c, hs.2 _ _ _ (fun r e => by cases e) k2, (reads_stay k3 hs).mono hs.1⟩
set_option maxHeartbeats 2000000 in
theorem progRead_any (s : ByteArray) (hs : s.size ≤ 100000000) (w : World) :
    Calls Tryz.prog 18 #[.string s] w fun e w' => OutR s.data.toList w e w' := by
  have hm := hmf
  have hsz := Lib.size_eq s
  have HG := Lib.hid (fun w => graphOf_any s hs w)
  by_cases hl : 16777216 < s.size
  · have HR : Hid (readR s.data.toList = (3, 0, 0, [])) := Lib.hid (by unfold readR; rw [if_pos (by omega)])
    unfold OutR
    rw [HR.out]
    have i1 : (16777216 : Int) < (s.size : Int) := by omega
    clear hl hs hsz HG
    go_enter_defers Tryz.func18, Tryz.ntmps18
    go_wp2
    obtain ⟨k0, k1, k2⟩ := three_new w (.pointer none) (.int .i64 3) (.int .i64 0) 24 25 3
    have hb := ((((Below.refl w.heap.size w).alloc (Nat.le_refl _) (.cells #[.pointer none] 24)).alloc (by simp) (.cells #[.int .i64 3] 25)).alloc (by simp; omega) (.cells #[.int .i64 0] 3))
    refine ⟨.tuple #[.pointer none, .int .i64 3, .int .i64 0], by simp [results, Tryz.results18, go_sem, k0.1, k1.1, k2.1], hb, none, 0, [], rfl, NetAt.nil _, ⟨by omega, by simp, good_nil⟩, Or.inl ⟨by decide, rfl, rfl, rfl⟩⟩
  · have HR : Hid (readR s.data.toList = readP (splitC 10 s.data.toList)) := Lib.hid (by unfold readR; rw [if_neg (by omega)])
    unfold OutR
    rw [HR.out]
    have i1 : ¬ (16777216 : Int) < (s.size : Int) := by omega
    generalize readP (splitC 10 s.data.toList) = B at *
    have hb := ((((Below.refl w.heap.size w).alloc (Nat.le_refl _) (.cells #[.pointer none] 24)).alloc (by simp) (.cells #[.int .i64 0] 25)).alloc (by simp; omega) (.cells #[.int .i64 0] 3))
    obtain ⟨k0, k1, k2⟩ := three_new w (.pointer none) (.int .i64 0) (.int .i64 0) 24 25 3
    have K0 := Lib.hid k0
    have K1 := Lib.hid k1
    have K2 := Lib.hid k2
    have HB := Lib.hid hb
    clear hl hs hsz hb k0 k1 k2
    go_enter_defers Tryz.func18, Tryz.ntmps18
    go_wp2_with fail
    generalize hX : w.heap.size = X at *
    have HX := Lib.hid hX
    clear hX
    generalize ((w.alloc (.cells #[.pointer none] 24)).alloc (.cells #[.int .i64 0] 25)).alloc (.cells #[.int .i64 0] 3) = wa at *
    refine (HG.out wa).mono ?_
    rintro e w1 ⟨hb1, ⟨hne, rfl⟩ | ⟨⟨hz0, hz1⟩, g, N, M, rfl, hnet, hg, h1, h2⟩⟩
    · have HB1 := Lib.hid (HB.out.trans (hb1.mono (by have := K2.out.lt; omega)))
      have J0 := Lib.hid (K0.out.keep hb1)
      have J1 := Lib.hid (K1.out.keep hb1)
      have J2 := Lib.hid (K2.out.keep hb1)
      have HNE := Lib.hid hne
      clear hb1 hne
      go_wp2
      refine leaves_cons (f := 46) (args := #[.pointer (some ⟨X, 0, none⟩), .pointer (some ⟨X + 1, 0, none⟩), .pointer (some ⟨X + 2, 0, none⟩)]) (by simp) (by simp [go_sem]) ?_
      refine (catch_stop X (X + 1) (X + 2) _ _ w1 (by omega) (by omega) _ J0.out J1.out J2.out).mono ?_
      rintro e u' w2 ⟨rfl, rfl, hb2, ⟨c0, -⟩, ⟨c1, -⟩, ⟨c2, -⟩⟩
      refine ⟨.tuple #[.pointer none, .int .i64 B.1, .int .i64 B.2.1], by simp [results, Tryz.results18, go_sem, c0, c1, c2], (by rw [HX.out]; exact HB1.out.trans hb2), none, 0, [], rfl, NetAt.nil _, ⟨by omega, by simp, good_nil⟩, Or.inl ⟨HNE.out, rfl, rfl, rfl⟩⟩
    · have HB1 := Lib.hid (HB.out.trans (hb1.mono (by have := K2.out.lt; omega)))
      have J0 := Lib.hid (K0.out.keep hb1)
      have J1 := Lib.hid (K1.out.keep hb1)
      have J2 := Lib.hid (K2.out.keep hb1)
      have HN := Lib.hid hnet
      have HH := Lib.hid (And.intro hz0 (And.intro hz1 (And.intro hg (And.intro h1 h2))))
      obtain ⟨c0, f0⟩ := J0.out
      obtain ⟨c1, f1⟩ := J1.out
      obtain ⟨c2, f2⟩ := J2.out
      have l0 := J0.out.lt
      have l1 := J1.out.lt
      have l2 := J2.out.lt
      clear hb1 hnet hz0 hz1 hg h1 h2
      go_wp2
      refine leaves_cons (f := 46) (args := #[.pointer (some ⟨X, 0, none⟩), .pointer (some ⟨X + 1, 0, none⟩), .pointer (some ⟨X + 2, 0, none⟩)]) (by simp) (by simp [go_sem]) ?_
      refine (catch_idle ⟨X, 0, none⟩ ⟨X + 1, 0, none⟩ ⟨X + 2, 0, none⟩ _).mono ?_
      rintro e u' w2 ⟨rfl, rfl, hb2⟩
      obtain ⟨d0, -⟩ := (((J0.out.set (.pointer (some ⟨g, 0, none⟩))).past (M := X + 1) (by omega) (.int .i64 0)).past (M := X + 2) (by omega) (.int .i64 0)).keep hb2
      obtain ⟨d1, -⟩ := (((J1.out.past (M := X) (by omega) (.pointer (some ⟨g, 0, none⟩))).set (.int .i64 0)).past (M := X + 2) (by omega) (.int .i64 0)).keep hb2
      obtain ⟨d2, -⟩ := (((J2.out.past (M := X) (by omega) (.pointer (some ⟨g, 0, none⟩))).past (M := X + 1) (by omega) (.int .i64 0)).set (.int .i64 0)).keep hb2
      have hb3 : Below X w ((((w1.setCell ⟨X, 0, none⟩ (.pointer (some ⟨g, 0, none⟩))).setCell ⟨X + 1, 0, none⟩ (.int .i64 0)).setCell ⟨X + 2, 0, none⟩ (.int .i64 0))) := ((HB1.out.setCell (p := ⟨X, 0, none⟩) (Nat.le_refl _) _).setCell (p := ⟨X + 1, 0, none⟩) (by show X ≤ X + 1; omega) _).setCell (p := ⟨X + 2, 0, none⟩) (by show X ≤ X + 2; omega) _
      refine ⟨.tuple #[.pointer (some ⟨g, 0, none⟩), .int .i64 0, .int .i64 0], by simp [results, Tryz.results18, go_sem, d0, d1, d2], (by rw [HX.out]; exact hb3.trans (hb2.mono (by simp; omega))), some ⟨g, 0, none⟩, N, M, by rw [HH.out.1, HH.out.2.1], ?_, HH.out.2.2.1, Or.inr ⟨⟨HH.out.1, HH.out.2.1⟩, ⟨g, rfl⟩, HH.out.2.2.2.1, HH.out.2.2.2.2⟩⟩
      refine (net_stay HN.out ?_).over hb2
      exact ((Stays.cell J0.out.1 (Or.inr ⟨_, rfl⟩)).trans (Stays.cell (J1.out.past (M := X) (by omega) _).1 (Or.inl rfl))).trans (Stays.cell ((J2.out.past (M := X) (by omega) _).past (M := X + 1) (by omega) _).1 (Or.inl rfl))
end Go.Proofs.YtdbebebhldldmaaGreatDoor.Gr
/- What layer 18's laws are walked over: the program's texts, its Read, and that it prints graphs at all. -/
namespace Go.Proofs.YtdbebebhldldmaaGreatDoor.Gp
open Go.RowKit Go.ChangeShapes
theorem progRead_any (s : ByteArray) (hs : s.size ≤ 1000000) (w : World) :
    Calls Tryz.prog 18 #[.string s] w fun e w' => Gr.OutR s.data.toList w e w' := Gr.progRead_any s (by omega) w
end Go.Proofs.YtdbebebhldldmaaGreatDoor.Gp
/- Contracts for the document's own answers on one number's digits (straitref06), beside no function of dec. -/
namespace Go.Proofs.YtdbebebhldldmaaGreatDoor.R6
open Go.RowKit Go.ChangeShapes DecPure
/-- A slice of one byte as a text. -/
theorem conv_one (n : Int) (w : World) (g : Nat) (hc : w.cell? (⟨g, 0, none⟩ : Addr) = some (.int .u8 n)) :
    (convert 110 9 (.slice (some ⟨g, 0, none⟩) 1 1)).run Tryz.prog w = .ok (.string ⟨#[UInt8.ofNat n.toNat]⟩) w := by
  rw [run_convert_bytes_string w _ _ _ _ _ _ Tryz.underlying110 Tryz.underlying5 Tryz.underlying9]
  have h := run_bytesToString (P := Tryz.prog) w ⟨g, 0, none⟩ 1 1 [n] (run_loadCells_list w ⟨g, 0, none⟩ [.int .u8 n] (fun j v hj => by
    match j, hj with
    | 0, hj => simp at hj; subst hj; simpa [Addr.add] using hc))
  rw [h]
  rfl
set_option maxHeartbeats 1000000 in
theorem digits_any (n : Nat) : n < 18446744073709551616 → ∀ w : World,
    Calls Tryz.prog 68 #[.int .u64 (n : Int)] w fun e w' => e = .returned (.string ⟨(Lib.decDigits n).toArray⟩) ∧ Below w.heap.size w w' := by
  induction n using Nat.strongRecOn with
  | _ n ih =>
    intro hn w
    by_cases h : n < 10
    · have HE := Lib.hid (dec_small h)
      clear ih
      have kc := conv_one (48 + (n : Int))
      go_enter Tryz.func68, Tryz.ntmps68
      go_wp2
      go_ret
      refine ⟨?_, (Below.refl _ _).alloc (Nat.le_refl _) _⟩
      rw [HE.out]
      rfl
    · have HE := Lib.hid (dec_big h)
      have HI := Lib.hid (ih (n / 10) (by omega) (by omega))
      clear ih
      have hm : n % 10 < 10 := by omega
      have e1 : IntKind.u64.wrap ((n : Int) / 10) = ((n / 10 : Nat) : Int) := by rw [IntWalk.u64_in _ (by omega)]; omega
      have e2 : (n : Int).tmod 10 = ((n % 10 : Nat) : Int) := by rw [Int.tmod_eq_emod_of_nonneg (by omega)]; omega
      have hl : (Lib.decDigits (n / 10)).length ≤ 20 := by rw [Lib.decDigits_length]; exact Lib.nDigits_le20 _ (by omega)
      have hl2 : decide (9223372036854775807 < (Lib.decDigits (n / 10)).length + 1) = false := decide_eq_false (by omega)
      generalize n / 10 = q at *
      generalize Lib.decDigits q = D at *
      generalize n % 10 = m at *
      have e3 : IntKind.u64.wrap (48 + (m : Int)) = 48 + (m : Int) := IntWalk.u64_in _ (by omega)
      have e4 : IntKind.u8.wrap (48 + (m : Int)) = 48 + (m : Int) := IntWalk.u8_in _ (by omega)
      have kc : ∀ (w : World) (g : Nat), w.cell? (⟨g, 0, none⟩ : Addr) = some (.int .u8 (48 + (m : Int))) → (convert 110 9 (.slice (some ⟨g, 0, none⟩) 1 1)).run Tryz.prog w = .ok (.string ⟨#[UInt8.ofNat (48 + m)]⟩) w :=
        fun w g h => by rw [conv_one _ w g h]; rfl
      have HC := Lib.hid (ByteArray.mk_append_mk D [UInt8.ofNat (48 + m)])
      generalize UInt8.ofNat (48 + m) = c at *
      go_enter Tryz.func68, Tryz.ntmps68
      go_wp2
      go_region_with (first | (go_at_call 68; refine (HI.out _).mono ?_; rintro e w1 ⟨rfl, hb1⟩; have HB1 := Lib.hid hb1; obtain ⟨hc1, hf1⟩ := bcell hb1; have hz1 := hb1.size; clear hb1))
      all_goals go_wp2
      all_goals go_ret
      all_goals refine ⟨by rw [HE.out]; exact congrArg (fun b => Ending.returned (.string b)) HC.out, ?_⟩
      all_goals first
        | exact ((Below.drew (Below.refl _ w)).trans HB1.out).alloc HB1.out.size _
        | exact (Below.drew ((Below.refl _ w).alloc (Nat.le_refl _) _)).trans (HB1.out.mono (by simp))
        | exact (((Below.refl _ w).alloc (Nat.le_refl _) _)).trans (HB1.out.mono (by simp))
set_option maxHeartbeats 400000 in
theorem refPrint_any (n : Int) (h0 : -9223372036854775808 ≤ n) (h1 : n ≤ 9223372036854775807) (w : World) :
    Calls Tryz.prog 38 #[.int .i64 n] w fun e w' => e = .returned (.string ⟨(Lib.itoa n).toArray⟩) ∧ Below w.heap.size w w' := by
  by_cases hn : n < 0
  · obtain ⟨u, hu⟩ : ∃ u : Nat, n = -(u : Int) := ⟨n.natAbs, by omega⟩
    have HI := Lib.hid (digits_any u (by omega) w)
    have HE : Hid (Lib.itoa n = 45 :: Lib.decDigits u) := Lib.hid (by rw [hu]; exact Lib.itoa_neg u (by omega))
    have hl : (Lib.decDigits u).length ≤ 20 := by rw [Lib.decDigits_length]; exact Lib.nDigits_le20 _ (by omega)
    have hl2 : decide (9223372036854775807 < 1 + (Lib.decDigits u).length) = false := decide_eq_false (by omega)
    generalize Lib.decDigits u = D at *
    have e1 : -(n + 1) + 1 = (u : Int) := by omega
    have HC := Lib.hid (ByteArray.mk_append_mk [45] D)
    have HN := Lib.hid hu
    clear hu
    go_enter Tryz.func38, Tryz.ntmps38
    go_wp2_with fail
    refine HI.out.mono ?_
    rintro e w1 ⟨rfl, hb1⟩
    have HB := Lib.hid hb1
    clear hb1 HI
    go_wp2
    go_ret
    refine ⟨?_, HB.out⟩
    rw [HE.out]
    exact congrArg (fun b => Ending.returned (.string b)) HC.out
  · obtain ⟨u, rfl⟩ : ∃ u : Nat, n = (u : Int) := ⟨n.toNat, by omega⟩
    have HI := Lib.hid (digits_any u (by omega) w)
    have HE : Hid (Lib.itoa (u : Int) = Lib.decDigits u) := Lib.hid (Lib.itoa_nonneg u)
    go_enter Tryz.func38, Tryz.ntmps38
    go_wp2_with fail
    refine HI.out.mono ?_
    rintro e w1 ⟨rfl, hb1⟩
    have HB := Lib.hid hb1
    clear hb1 HI
    go_wp2
    go_ret
    refine ⟨?_, HB.out⟩
    rw [HE.out]
    rfl
end Go.Proofs.YtdbebebhldldmaaGreatDoor.R6
/- The document's own text of numbers (straitref06.List), beside no function of dec. -/
namespace Go.Proofs.YtdbebebhldldmaaGreatDoor.R6
open Go.RowKit Go.ChangeShapes DecPure Str GpPure
open EdPure (In)
theorem nums_next {l : List Int} {k : Nat} (h : k < l.length) : nums (l.take (k + 1)) = (if k = 0 then [] else nums (l.take k) ++ [32]) ++ Lib.itoa l[k] := by
  unfold nums
  rw [take_snoc l k h, List.map_append]
  by_cases h0 : k = 0
  · subst h0; rfl
  · rw [if_neg h0]
    have hne : (l.take k).map Lib.itoa ≠ [] := by
      intro e
      have e2 := congrArg List.length (List.map_eq_nil_iff.1 e)
      rw [List.length_take] at e2
      simp only [List.length_nil] at e2
      omega
    show WordPure.joinC 32 ((l.take k).map Lib.itoa ++ [Lib.itoa l[k]]) = _
    rw [WordPure.join_snoc 32 _ _ hne, List.append_assoc]; rfl
set_option maxHeartbeats 2000000 in
theorem refList_any (a : Option Addr) (cap : Nat) (l : List Int) (w : World) (hr : ∀ n ∈ l, In n) (hl : ReadsL encZ w.heap.size w a l) (hlen : l.length ≤ 1000000) :
    Calls Tryz.prog 40 #[.slice a l.length cap] w fun e w' => e = .returned (.string ⟨(nums l).toArray⟩) ∧ Below w.heap.size w w' := by
  have HL := Lib.hid hl
  have HR := Lib.hid hr
  have HS := Lib.hid (Below.refl w.heap.size w)
  have H0 : Hid (nums (l.take 0) = []) := Lib.hid rfl
  clear hl hr
  go_enter Tryz.func40, Tryz.ntmps40
  go_wp2
  go_loopw [3, 4] (fun t i wr => ∃ (k : Nat) (T : ByteArray), i = .int .i64 k ∧ k ≤ l.length ∧ t = .string T ∧ Hid (T = ⟨(nums (l.take k)).toArray⟩) ∧ Hid (Below w.heap.size w wr)) (fun _ i _ => l.length - (intOf i).toNat)
  case atStart => exact ⟨0, ⟨#[]⟩, rfl, Nat.zero_le _, rfl, Lib.hid (by rw [H0.out]), HS⟩
  case round =>
    obtain ⟨k, T, rfl, hk, rfl, HT, HB⟩ := hrel
    by_cases hlt : k < l.length
    · obtain ⟨b, off, rfl, hbN, hck⟩ := (HL.out.on HB.out).at hlt
      unfold encZ at hck
      have hrn := HR.out l[k] (List.getElem_mem hlt)
      unfold In at hrn
      have HN := Lib.hid (nums_next hlt)
      have HTL := Lib.hid (nums_size (l := l.take k) fun n hn => HR.out n (List.mem_of_mem_take hn))
      have HIL := Lib.hid (Lib.itoa_length_le l[k] hrn.1 hrn.2)
      have HSZ : Hid (T.size ≤ 22000000) := Lib.hid (by have := HTL.out; rw [List.length_take] at this; rw [HT.out]; show (nums (l.take k)).toArray.size ≤ _; rw [List.size_toArray]; omega)
      have HP := Lib.hid (refPrint_any l[k] hrn.1 hrn.2 wr)
      obtain ⟨X, hX⟩ : ∃ X : ByteArray, X = ⟨(Lib.itoa l[k]).toArray⟩ := ⟨_, rfl⟩
      have HXS : Hid (X.size ≤ 21) := Lib.hid (by have := HIL.out; rw [hX]; show (Lib.itoa l[k]).toArray.size ≤ _; rw [List.size_toArray]; omega)
      rw [← hX] at HP
      have HX := Lib.hid hX
      clear hX
      generalize l[k] = x at *
      by_cases h0 : k = 0
      · have HN' : Hid (T ++ X = ⟨(nums (l.take (k + 1))).toArray⟩) := Lib.hid (by
          rw [HT.out, HX.out, cat_bytes, HN.out, if_pos h0]
          subst h0; rw [H0.out])
        have g0 : ¬ (0 : Int) < (k : Int) := by omega
        have t1 := HSZ.out
        have t2 := HXS.out
        clear h0
        go_wp2_with fail
        refine HP.out.mono ?_
        rintro e w1 ⟨rfl, hb1⟩
        have HB1 := Lib.hid (HB.out.trans (hb1.mono HB.out.size))
        clear hb1
        go_wp2
        go_roundw
        case rel => exact ⟨k + 1, _, by go_num, hlt, rfl, HN', HB1⟩
        case measure => simp [intOf]; omega
      · have HN' : Hid (T ++ ⟨#[32]⟩ ++ X = ⟨(nums (l.take (k + 1))).toArray⟩) := Lib.hid (by
          rw [HT.out, HX.out, HN.out, if_neg h0]
          rw [show (⟨#[32]⟩ : ByteArray) = ⟨[32].toArray⟩ from rfl, cat_bytes, cat_bytes])
        have g0 : (0 : Int) < (k : Int) := by omega
        have t1 := HSZ.out
        have t2 := HXS.out
        clear h0
        go_wp2_with fail
        refine HP.out.mono ?_
        rintro e w1 ⟨rfl, hb1⟩
        have HB1 := Lib.hid (HB.out.trans (hb1.mono HB.out.size))
        clear hb1
        go_wp2
        go_roundw
        case rel => exact ⟨k + 1, _, by go_num, hlt, rfl, HN', HB1⟩
        case measure => simp [intOf]; omega
    · have hke : k = l.length := by omega
      have HE : Hid (T = ⟨(nums l).toArray⟩) := Lib.hid (by rw [HT.out, hke, List.take_length])
      go_wp2
      go_ret
      refine ⟨?_, HB.out⟩
      rw [← HE.out]; rfl
end Go.Proofs.YtdbebebhldldmaaGreatDoor.R6
