/- Contract of the trees' pair, at every list of tops. -/
import Derived.Test.YtndljbkjcgfdcaaHpPair2
import Derived.Test.YtndljbkjcgfdcaaHpMeld
import Derived.WalkMore
namespace Go.Proofs.Ytndljbkjcgfdcaa
open Go.RowKit Go.ChangeShapes NdPure HpPure
theorem exists_least {p : Nat → Prop} (h : ∃ m, p m) : ∃ m, p m ∧ ∀ k, p k → m ≤ k := by
  obtain ⟨m, hm⟩ := h
  induction m using Nat.strongRecOn with
  | ind m ih =>
    by_cases e : ∃ k, p k ∧ k < m
    · obtain ⟨k, hk, hkm⟩ := e
      exact ih k hkm hk
    · exact ⟨m, hm, fun k hk => Nat.le_of_not_lt (fun e2 => e ⟨k, hk, e2⟩)⟩
open Classical in
/-- The least number of which something is told: the measure of loops that go along what memory tells. -/
noncomputable def leastN (p : Nat → Prop) : Nat := if h : ∃ m, p m then (exists_least h).choose else 0
theorem leastN_spec {p : Nat → Prop} (h : ∃ m, p m) : p (leastN p) ∧ ∀ k, p k → leastN p ≤ k := by
  unfold leastN
  rw [dif_pos h]
  exact (exists_least h).choose_spec
theorem leastN_lt {p p' : Nat → Prop} {m : Nat} (h : p m) (hlt : m < leastN p') : leastN p < leastN p' := Nat.lt_of_le_of_lt ((leastN_spec ⟨m, h⟩).2 m h) hlt
/-- At the head of a round. -/
def PairR (O : Nat → Prop) (B : Bl) (w0 : World) (M : Hp) (ex : Int) (q : Nat) (list pairs whole : Int) (m : Nat) (W : World) : Prop :=
  ∃ S' n L P K, Hs O B w0 (M.linked S' (n : Nat)) W ∧ PairP M.Y M.S S' ex list pairs whole L P K q n ∧ m = 2 * L.length + P.length
/-- What pairing a list makes. -/
def PairOut (O : Nat → Prop) (B : Bl) (w0 : World) (M : Hp) (ex : Int) (q : Nat) (e : Ending) (W : World) : Prop :=
  ∃ whole S' n K, e = .returned (.int .i64 whole) ∧ Hs O B w0 (M.linked S' (n : Nat)) W ∧ PairP M.Y M.S S' ex (-1) (-1) whole [] [] K q n
theorem linked_two (M : Hp) (S S' : St) (a b : Int) : (M.linked S a).linked S' b = M.linked S' (a + b) := by unfold Hp.linked; rw [Int.add_assoc]
section
variable {O : Nat → Prop} {B : Bl} {w0 : World} {M : Hp}
theorem meldL_nat (a c : Int) : ((meldL a c).toNat : Int) = meldL a c := by
  unfold meldL
  split
  · rfl
  · split <;> rfl
theorem linked_up (S S' : St) (n : Nat) (a c : Int) : (M.linked S (n : Nat)).linked S' (meldL a c) = M.linked S' ((n + (meldL a c).toNat : Nat) : Int) := by
  rw [linked_two, Int.natCast_add, meldL_nat]
set_option maxRecDepth 100000 in
set_option maxHeartbeats 4000000 in
theorem pair_run (W : World) (ex list : Int) (L : List Int) (K : Int → List Int) (h : Hs O B w0 M W) (hp : PairP M.Y M.S M.S ex list (-1) (-1) L [] K L.length 0)
    (hi : ∀ x y, G M.S x → G M.S y → (atV M.S x).v = (atV M.S y).v → x = y) (hv : ∀ c, G M.S c → 0 ≤ (atV M.S c).v ∧ (atV M.S c).v < (M.C.length : Int)) (hl0 : 0 ≤ M.links) (hl1 : M.links + (L.length : Int) ≤ 4611686018427387904) :
    Calls Try.prog 34 #[.pointer (some ⟨B.b, 0, none⟩), .int .i64 list, aheadV B] W (PairOut O B w0 M ex L.length) := by
  have HR : Hid (PairR O B w0 M ex L.length list (-1) (-1) (2 * L.length) W) := Lib.hid ⟨M.S, 0, L, [], K, by rw [show ((0 : Nat) : Int) = 0 from rfl, linked_zero, withS_self]; exact h, hp, by simp⟩
  have HI := Lib.hid hi
  have HV := Lib.hid hv
  clear h hp hi hv
  generalize hq : L.length = q at *
  clear hq
  go_enter Try.func34, Try.ntmps34
  go_wp2
  go_step3
  go_wp2
  go_step3
  go_wp2
  go_loopw [1, 7, 8] (fun s1 s7 s8 wr => ∃ (l p x : Int), s1 = .int .i64 l ∧ s7 = .int .i64 p ∧ s8 = .int .i64 x ∧ Hid (∃ m, PairR O B w0 M ex q l p x m wr)) (fun s1 s7 s8 wr => leastN (fun m => PairR O B w0 M ex q (intOf s1) (intOf s7) (intOf s8) m wr))
  case atStart => exact ⟨list, -1, -1, rfl, rfl, rfl, Lib.hid ⟨_, HR.out⟩⟩
  case round =>
    obtain ⟨l, p, x, rfl, rfl, rfl, HX⟩ := hrel
    clear HR
    have HM := Lib.hid (leastN_spec HX.out).1
    clear HX
    simp only [intOf]
    generalize hm0 : leastN (fun m => PairR O B w0 M ex q l p x m wr) = m0 at *
    have HM0 := Lib.hid hm0
    clear hm0
    obtain ⟨S', n, L, P, K, hs, hp, hm⟩ := HM.out
    have HS := Lib.hid hs
    clear hs
    have hq1 : (n : Int) ≤ (q : Int) := by have := hp.cnt; omega
    have hl2 : 0 ≤ M.links + (n : Int) := by omega
    have hl3 : M.links + (n : Int) ≤ 4611686018427387904 := by omega
    have HL2 := Lib.hid hl2
    have HL3 := Lib.hid hl3
    have HIV : Hid (∀ c, G S' c → 0 ≤ (atV S' c).v ∧ (atV S' c).v < (M.C.length : Int)) := Lib.hid fun c hc => by rw [hp.v]; exact HV.out c ((hp.g c).1 hc)
    clear hl2 hl3 hl0 hl1 hq1
    cases L with
    | cons a r =>
      obtain ⟨⟨e1, e2, e3⟩, ⟨g1, g2⟩, K', hp'⟩ := hp.one HI.out
      subst e1
      have t1 : (l != -1) = true := by simpa using e2
      have HR := Lib.hid e3
      have HG : Hid (l ≠ -1 → hd r ≠ -1 → TopsIn M.C.length S' l (hd r)) := Lib.hid fun _ e => ⟨HIV.out l g1, HIV.out (hd r) (g2 e)⟩
      have HP := Lib.hid hp'
      have HQ : Hid (2 * r.tail.length + (P.length + 1) < m0) := Lib.hid (by rw [hm]; simp; omega)
      clear hp hm hp' e2 e3 g1 g2 HM HIV HI HV
      generalize hd r = b at *
      generalize hmn : meldN M.Y S' l b = y at *
      have HMN := Lib.hid hmn
      clear hmn
      go_wp2_with fail
      refine (take_run _ l HS.out).mono ?_
      rintro e w1 ⟨rfl, hb1⟩
      rw [show restN (M.linked S' (n : Nat)).S l = b from HR.out]
      have HS1 := Lib.hid (HS.out.keep hb1)
      clear hb1 HS
      go_wp2_with fail
      refine (take_run _ b HS1.out).mono ?_
      rintro e w2 ⟨rfl, hb2⟩
      have HS2 := Lib.hid (HS1.out.keep hb2)
      clear hb2 HS1
      generalize hrs : restN (M.linked S' (n : Nat)).S b = z at *
      have HRS := Lib.hid hrs
      clear hrs
      go_wp2_with fail
      refine (meld_run _ l b HS2.out HL2.out HL3.out HG.out).mono ?_
      rintro e w3 ⟨rfl, h3⟩
      rw [show meldN (M.linked S' (n : Nat)).Y (M.linked S' (n : Nat)).S l b = y from HMN.out]
      have HS3 := Lib.hid h3
      clear h3 HS2
      go_wp2_with fail
      refine (put_run _ y p HS3.out).mono ?_
      rintro e w4 ⟨rfl, h4⟩
      have HS4 : Hid (PairR O B w0 M ex q z y x (2 * r.tail.length + (P.length + 1)) w4) := Lib.hid (by
        have h5 : M.linked (putS' (meldS M.Y S' l b) y p) ((n + (meldL l b).toNat : Nat) : Int) = ((M.linked S' (n : Nat)).linked (meldS M.Y S' l b) (meldL l b)).withS (putS' (meldS M.Y S' l b) y p) := by
          rw [linked_up]; rfl
        refine ⟨putS' (meldS M.Y S' l b) y p, n + (meldL l b).toNat, r.tail, y :: P, K', by rw [h5]; exact h4, ?_, by simp⟩
        have := HP.out
        rw [show restN S' b = z from HRS.out] at this
        exact this)
      clear h4 HS3 HP HG HL2 HL3
      go_wp2
      go_roundw
      case rel => exact ⟨z, y, x, rfl, rfl, rfl, Lib.hid ⟨_, HS4.out⟩⟩
      case measure =>
        simp only [intOf]
        rw [HM0.out]
        exact Nat.lt_of_le_of_lt ((leastN_spec ⟨_, HS4.out⟩).2 _ HS4.out) HQ.out
    | nil =>
      have e0 : l = -1 := hp.chL
      subst e0
      cases P with
      | cons a r =>
        obtain ⟨⟨e1, e2, e3⟩, ⟨g1, g2⟩, K', hp'⟩ := hp.two HI.out
        subst e1
        have t1 : (p != -1) = true := by simpa using e2
        have HR := Lib.hid e3
        have HG : Hid (x ≠ -1 → p ≠ -1 → TopsIn M.C.length S' x p) := Lib.hid fun e _ => ⟨HIV.out x (g2 e), HIV.out p g1⟩
        have HP := Lib.hid hp'
        have HQ : Hid (r.length < m0) := Lib.hid (by rw [hm]; simp)
        clear hp hm hp' e2 e3 g1 g2 HM HIV HI HV
        generalize hd r = b at *
        generalize hmn : meldN M.Y S' x p = y at *
        have HMN := Lib.hid hmn
        clear hmn
        go_wp2_with fail
        refine (take_run _ p HS.out).mono ?_
        rintro e w1 ⟨rfl, hb1⟩
        rw [show restN (M.linked S' (n : Nat)).S p = b from HR.out]
        have HS2 := Lib.hid (HS.out.keep hb1)
        clear hb1 HS
        go_wp2_with fail
        refine (meld_run _ x p HS2.out HL2.out HL3.out HG.out).mono ?_
        rintro e w3 ⟨rfl, h3⟩
        rw [show meldN (M.linked S' (n : Nat)).Y (M.linked S' (n : Nat)).S x p = y from HMN.out]
        have HS4 : Hid (PairR O B w0 M ex q (-1) b y r.length w3) := Lib.hid (by
          have h5 : M.linked (meldS M.Y S' x p) ((n + (meldL x p).toNat : Nat) : Int) = (M.linked S' (n : Nat)).linked (meldS M.Y S' x p) (meldL x p) := (linked_up _ _ _ _ _).symm
          exact ⟨meldS M.Y S' x p, n + (meldL x p).toNat, [], r, K', by rw [h5]; exact h3, HP.out, by simp⟩)
        clear h3 HS2 HP HG HL2 HL3
        go_wp2
        go_roundw
        case rel => exact ⟨-1, b, y, rfl, rfl, rfl, Lib.hid ⟨_, HS4.out⟩⟩
        case measure =>
          simp only [intOf]
          rw [HM0.out]
          exact Nat.lt_of_le_of_lt ((leastN_spec ⟨_, HS4.out⟩).2 _ HS4.out) HQ.out
      | nil =>
        have e0 : p = -1 := hp.chP
        subst e0
        have HF : Hid (PairOut O B w0 M ex q (.returned (.int .i64 x)) wr) := Lib.hid ⟨x, S', n, K, rfl, HS.out, hp⟩
        clear hp hm HM HIV HI HV HS HL2 HL3
        go_wp2
        go_ret
        exact HF.out
end
end Go.Proofs.Ytndljbkjcgfdcaa
