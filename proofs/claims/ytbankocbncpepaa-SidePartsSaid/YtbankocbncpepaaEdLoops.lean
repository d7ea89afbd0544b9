/- Contracts of Checks and Total. -/
import Derived.Test.YtbankocbncpepaaEdCode
import Derived.Test.YtbankocbncpepaaNumAdd
namespace Go.Proofs.Ytbankocbncpepaa
open Go.RowKit Go.ChangeShapes EdPure NumPure
/-- Why the first one that can't be is none, and its place. -/
def chkL (n : Int) : List Ed → Nat → Int × Int
  | [], _ => (0, 0)
  | e :: r, i => if chkE n e = 0 then chkL n r (i + 1) else (chkE n e, (i : Int))
theorem chk_hit (n : Int) : ∀ (l : List Ed) (i k : Nat) (hk : k < l.length), chkE n l[k] ≠ 0 → (∀ j (hj : j < l.length), j < k → chkE n l[j] = 0) → chkL n l i = (chkE n l[k], ((i + k : Nat) : Int))
  | [], i, k, hk, _, _ => by simp at hk
  | e :: r, i, 0, hk, h, _ => by
    have h' : chkE n e ≠ 0 := h
    unfold chkL
    rw [if_neg h']
    rfl
  | e :: r, i, k + 1, hk, h, hn => by
    unfold chkL
    have h0 : chkE n e = 0 := hn 0 (by simp) (by omega)
    rw [if_pos h0]
    rw [chk_hit n r (i + 1) k (by simpa using hk) h (fun j hj hlt => hn (j + 1) (by simpa using hj) (by omega))]
    simp only [List.getElem_cons_succ, Prod.mk.injEq, true_and]
    omega
theorem chk_miss (n : Int) : ∀ (l : List Ed) (i : Nat), (∀ j (hj : j < l.length), chkE n l[j] = 0) → chkL n l i = (0, 0)
  | [], _, _ => rfl
  | e :: r, i, h => by
    unfold chkL
    have h0 : chkE n e = 0 := h 0 (by simp)
    rw [if_pos h0]
    exact chk_miss n r (i + 1) fun j hj => h (j + 1) (by simpa using hj)
theorem ret_iiE {a b c d : Int} (h1 : a = b) (h2 : c = d) : Ending.returned (.tuple #[.int .i64 a, .int .i64 c]) = .returned (.tuple #[.int .i64 b, .int .i64 d]) := by rw [h1, h2]
def ChkRel (n : Int) (w : World) (l : List Ed) (k : Nat) (wr : World) : Prop := k ≤ l.length ∧ Below w.heap.size w wr ∧ ∀ j (hj : j < l.length), j < k → chkE n l[j] = 0
theorem ChkRel.next {n : Int} {w wr w' : World} {l : List Ed} {k : Nat} (h : ChkRel n w l k wr) (hk : k < l.length) (h0 : chkE n l[k] = 0) (hb : Below w.heap.size w w') : ChkRel n w l (k + 1) w' := by
  refine ⟨hk, hb, fun j hj hlt => ?_⟩
  by_cases e : j = k
  · subst e; exact h0
  · exact h.2.2 j hj (by omega)
theorem checks_any (n : Int) (a : Option Addr) (c : Nat) (l : List Ed) (hl : l.length ≤ 1048576) (w : World) (hR : ReadsE w.heap.size w a l) :
    Calls Try.prog 24 #[.int .i64 n, .slice a l.length c] w fun e w' => e = .returned (.tuple #[.int .i64 (chkL n l 0).1, .int .i64 (chkL n l 0).2]) ∧ Below w.heap.size w w' := by
  have HR := Lib.hid hR
  clear hR
  go_enter Try.func24, Try.ntmps24
  go_wp2
  go_loopw [11] (fun i wr => ∃ k : Nat, i = .int .i64 k ∧ Hid (ChkRel n w l k wr)) (fun i _ => l.length - (intOf i).toNat)
  case atStart => exact ⟨0, rfl, Lib.hid ⟨Nat.zero_le _, Below.refl _ _, fun j _ h => by omega⟩⟩
  case round =>
    obtain ⟨k, rfl, HK⟩ := hrel
    by_cases hlt : k < l.length
    · have i0 : (0 : Int) ≤ (k : Int) := by omega
      have i1 : (k : Int) < (l.length : Int) := by omega
      obtain ⟨u, v, x, he⟩ : ∃ u v x, l[k] = (u, v, x) := ⟨_, _, _, rfl⟩
      obtain ⟨b, off, rfl, hbw, hbr, c0, c1, c2⟩ := HR.out.cells hlt HK.out.2.1 he
      have HC := Lib.hid (fun W => check_any n (u, v, x) W)
      unfold encE at HC
      have HB : Hid (Below w.heap.size w (wr.alloc (.cells #[.int .i64 u, .int .i64 v, .int .i64 x] 58))) := Lib.hid (HK.out.2.1.alloc HK.out.2.1.size _)
      have HE := Lib.hid he
      clear he
      by_cases h0 : chkE n (u, v, x) = 0
      · have H0 := Lib.hid h0
        rw [h0] at HC
        clear h0
        go_wp2_with (first | (go_at_call 36; refine (HC.out _).mono ?_; rintro e w1 ⟨rfl, hb⟩; have H1 := Lib.hid hb; clear hb))
        go_roundw
        case rel => exact ⟨k + 1, by go_num, Lib.hid (HK.out.next hlt (by rw [HE.out]; exact H0.out) (HB.out.trans (H1.out.mono HB.out.size)))⟩
        case measure => (simp [intOf]; omega)
      · have HX : Hid (chkL n l 0 = (chkE n (u, v, x), (k : Int))) := Lib.hid (by
          rw [chk_hit n l 0 k hlt (by rw [HE.out]; exact h0) HK.out.2.2, HE.out, Nat.zero_add])
        have t : (chkE n (u, v, x) != 0) = true := by simpa using h0
        clear h0
        generalize chkE n (u, v, x) = r at *
        go_wp2_with (first | (go_at_call 36; refine (HC.out _).mono ?_; rintro e w1 ⟨rfl, hb⟩; have H1 := Lib.hid hb; clear hb))
        go_ret2
        exact ⟨ret_iiE (by rw [HX.out]) (by rw [HX.out]), HB.out.trans (H1.out.mono HB.out.size)⟩
    · have hk : k = l.length := by have := HK.out.1; omega
      subst hk
      have HX : Hid (chkL n l 0 = (0, 0)) := Lib.hid (chk_miss n l 0 fun j hj => HK.out.2.2 j hj hj)
      go_wp2
      go_ret2
      exact ⟨ret_iiE (by rw [HX.out]) (by rw [HX.out]), HK.out.2.1⟩
/-- All together, up to k. -/
def TotRel (w : World) (l : List Ed) (k : Nat) (wr : World) : Prop := k ≤ l.length ∧ Below w.heap.size w wr ∧ AccAt w.heap.size wr (sumS ((wts l).take k)) ∧ (sumS ((wts l).take k)).2 = true
theorem wts_at {l : List Ed} {k : Nat} (hk : k < l.length) : (wts l).getD k 0 = l[k].2.2 := by
  unfold wts
  rw [List.getD_eq_getElem?_getD, List.getElem?_eq_getElem (by simpa using hk), List.getElem_map]; rfl
end Go.Proofs.Ytbankocbncpepaa
