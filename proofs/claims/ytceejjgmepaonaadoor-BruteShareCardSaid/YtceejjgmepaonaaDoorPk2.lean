/- Texts that the laws of this seat stand on, part 2. -/
import Derived.Test.YtceejjgmepaonaaDoorPk0
import Derived.Test.YtceejjgmepaonaaDoorPk1
import Derived.Laws.BitsAllLaws
import Derived.Deep.RegionWith
import Derived.Deep.QuietTactic
import Derived.BigQuiet
import Derived.BigRegion
import Derived.StillTailTactics
/- Contracts of vset's small functions, at every argument (beside net). -/
namespace Go.Proofs.YtceejjgmepaonaaDoor.Vs
open Go.RowKit Go.ChangeShapes VsetPure
theorem bit_any (v : Nat) (hv : v ≤ 4096) (w : World) :
    Calls Tryd.prog 105 #[.int .i64 v] w fun e w' => e = .returned (.int .u64 ((2 ^ (v % 64) : Nat) : Int)) ∧ w = w' := by
  go_enter Tryd.func105, Tryd.ntmps105
  go_wp2
  go_ret
  exact ⟨ret_i (by
    have hp : 2 ^ (v % 64) < 18446744073709551616 := Nat.lt_of_lt_of_le (Nat.pow_lt_pow_right (by decide) (show v % 64 < 64 by omega)) (by decide)
    rw [IntKind.wrap_u64]
    have e : (2 : Int) ^ (v % 64) = ((2 ^ (v % 64) : Nat) : Int) := by rw [Int.natCast_pow]; rfl
    rw [e]
    generalize 2 ^ (v % 64) = q at *
    omega), rfl⟩
theorem room_nil (w : World) :
    Calls Tryd.prog 106 #[.pointer none] w fun e w' => e = .returned (.int .i64 0) ∧ w = w' := by
  go_enter Tryd.func106, Tryd.ntmps106
  go_wp2
  go_ret
  exact ⟨rfl, rfl⟩
theorem room_any (b n : Nat) (w : World) (hc : w.cell? ⟨b, 0, none⟩ = some (.int .i64 n)) :
    Calls Tryd.prog 106 #[.pointer (some ⟨b, 0, none⟩)] w fun e w' => e = .returned (.int .i64 n) ∧ w = w' := by
  go_enter Tryd.func106, Tryd.ntmps106
  go_wp2
  go_ret
  exact ⟨rfl, rfl⟩
/-- Is there room for v? -/
def fitB (n : Nat) (v : Int) : Bool := decide (0 ≤ v) && decide (v < n)
theorem fit_yes {n : Nat} {v : Int} (h : fitB n v = true) : 0 ≤ v ∧ v < n := by simpa [fitB] using h
theorem fits_nil (v : Int) (w : World) :
    Calls Tryd.prog 97 #[.pointer none, .int .i64 v] w fun e w' => e = .returned (.bool false) ∧ w = w' := by
  by_cases h : 0 ≤ v
  · have h1 : decide (0 ≤ v) = true := decide_eq_true h
    have h2 : decide (v < 0) = false := decide_eq_false (by omega)
    go_enter Tryd.func97, Tryd.ntmps97
    go_wp2_with (first | (go_at_call 106; refine (room_nil _).mono ?_; rintro e w' ⟨rfl, rfl⟩))
    go_ret
    exact ⟨rfl, rfl⟩
  · have h1 : decide (0 ≤ v) = false := decide_eq_false h
    go_enter Tryd.func97, Tryd.ntmps97
    go_wp2
    go_ret
    exact ⟨rfl, rfl⟩
theorem fits_any (b n : Nat) (v : Int) (w : World) (hc : w.cell? ⟨b, 0, none⟩ = some (.int .i64 n)) :
    Calls Tryd.prog 97 #[.pointer (some ⟨b, 0, none⟩), .int .i64 v] w fun e w' => e = .returned (.bool (fitB n v)) ∧ w = w' := by
  have hF := Lib.hid (show fitB n v = (decide (0 ≤ v) && decide (v < n)) from rfl)
  by_cases h : 0 ≤ v
  · have h1 : decide (0 ≤ v) = true := decide_eq_true h
    have hF2 : Hid (fitB n v = decide (v < (n : Int))) := Lib.hid (by rw [hF.out, h1, Bool.true_and])
    go_enter Tryd.func97, Tryd.ntmps97
    go_wp2_with (first | (go_at_call 106; refine (room_any b n _ hc).mono ?_; rintro e w' ⟨rfl, rfl⟩))
    go_ret
    exact ⟨bool_ret hF2.out.symm, rfl⟩
  · have h1 : decide (0 ≤ v) = false := decide_eq_false h
    have hF2 : Hid (fitB n v = false) := Lib.hid (by rw [hF.out, h1, Bool.false_and])
    go_enter Tryd.func97, Tryd.ntmps97
    go_wp2
    go_ret
    exact ⟨bool_ret hF2.out.symm, rfl⟩
end Go.Proofs.YtceejjgmepaonaaDoor.Vs
/- A set in memory: its room, its words, and which vertices these tell of; over calls and stores. Contracts of Has, Put (beside net). -/
namespace Go.Proofs.YtceejjgmepaonaaDoor.Vs
open Go.RowKit Go.ChangeShapes VsetPure
def encW (x : Nat) : Value := .int .u64 (x : Int)
/-- At block b a set's room and its words' place, at block g the words; p tells which vertices are in it. -/
def SetAt (b g : Nat) (w : World) (n : Nat) (p : Nat → Bool) : Prop :=
  n ≤ 4096 ∧ b ≠ g ∧ g < w.heap.size ∧ (∀ v, n ≤ v → p v = false) ∧
  ∃ ws : List Nat, Wordy ws ∧ ws.length = (n + 63) / 64 ∧ p = bitOf ws ∧ TwoAt b w (.int .i64 (n : Int)) (.slice (some ⟨g, 0, none⟩) ws.length ws.length) ∧ RowIs g w (ws.map encW)
theorem SetAt.lt {b g : Nat} {w : World} {n : Nat} {p : Nat → Bool} (h : SetAt b g w n p) : b < w.heap.size ∧ g < w.heap.size := by
  obtain ⟨-, -, h1, -, ws, -, -, -, h2, -⟩ := h
  exact ⟨h2.lt, h1⟩
theorem SetAt.on {b g M : Nat} {w w' : World} {n : Nat} {p : Nat → Bool} (h : SetAt b g w n p) (hb : Below M w w') (h1 : b < M) (h2 : g < M) : SetAt b g w' n p := by
  obtain ⟨a1, a2, a3, a4, ws, a5, a6, a7, a8, a9⟩ := h
  exact ⟨a1, a2, Nat.lt_of_lt_of_le a3 hb.size, a4, ws, a5, a6, a7, a8.on hb h1, a9.on hb h2⟩
theorem SetAt.keep {b g : Nat} {w w' : World} {n : Nat} {p : Nat → Bool} (h : SetAt b g w n p) (hb : Below w.heap.size w w') : SetAt b g w' n p := h.on hb h.lt.1 h.lt.2
theorem SetAt.drawn {b g : Nat} {w : World} {n : Nat} {p : Nat → Bool} (h : SetAt b g w n p) (k : Nat) : SetAt b g (w.drewN k) n p := h.keep (below_drewN (Below.refl _ _) k)
/-- Beside a block that is turned. -/
theorem two_past {b : Nat} {w w' : World} {u v : Value} {row : Option Nat} (h : TwoAt b w u v) (hg : w.grownBy w' row) (hr : some b ≠ row) : TwoAt b w' u v := by
  have hk := hg.block b h.lt hr
  obtain ⟨h0, h1, f0, f1⟩ := h
  exact ⟨(World.cell?_of_block hk).trans h0, (World.cell?_of_block hk).trans h1, (World.frozen?_of_block hk).trans f0, (World.frozen?_of_block hk).trans f1⟩
theorem row_past {g : Nat} {w w' : World} {vs : List Value} {row : Option Nat} (h : RowIs g w vs) (hl : g < w.heap.size) (hg : w.grownBy w' row) (hr : some g ≠ row) : RowIs g w' vs := by
  have hk := hg.block g hl hr
  exact fun i hi => ⟨(World.cell?_of_block hk).trans (h i hi).1, (World.frozen?_of_block hk).trans (h i hi).2⟩
theorem SetAt.past {b g : Nat} {w w' : World} {n : Nat} {p : Nat → Bool} {row : Option Nat} (h : SetAt b g w n p) (hg : w.grownBy w' row) (h1 : some b ≠ row) (h2 : some g ≠ row) : SetAt b g w' n p := by
  obtain ⟨a1, a2, a3, a4, ws, a5, a6, a7, a8, a9⟩ := h
  exact ⟨a1, a2, Nat.lt_of_lt_of_le a3 hg.size, a4, ws, a5, a6, a7, two_past a8 hg h1, row_past a9 a3 hg h2⟩
theorem grown_cell (w : World) (b i : Nat) (v : Value) : w.grownBy (w.setCell ⟨b, i, none⟩ v) (some b) :=
  ⟨rfl, rfl, rfl, by simp, fun k _ hk => Below.heap_setCell _ _ _ k (fun e => hk (by rw [e]))⟩
theorem grown_drawn {w w' : World} {row : Option Nat} (h : w.grownBy w' row) (k : Nat) : w.grownBy (w'.drewN k) row := ⟨h.os, h.tape, h.output, h.size, h.block⟩
/-- A word of a set is laid anew. -/
theorem SetAt.set {b g : Nat} {w : World} {n : Nat} {p q : Nat → Bool} (h : SetAt b g w n p) (hq : ∀ v, n ≤ v → q v = false) {k x : Nat} {ws : List Nat} (hk : k < ws.length) (hx : x < 18446744073709551616)
    (hw : Wordy ws) (hl : ws.length = (n + 63) / 64) (hr : RowIs g w (ws.map encW)) (ht : TwoAt b w (.int .i64 (n : Int)) (.slice (some ⟨g, 0, none⟩) ws.length ws.length)) (he : q = bitOf (ws.set k x)) :
    SetAt b g (w.setCell ⟨g, k, none⟩ (.int .u64 (x : Int))) n q := by
  obtain ⟨a1, a2, a3, -⟩ := h
  refine ⟨a1, a2, by simpa using a3, hq, ws.set k x, hw.set k x hx, by rw [List.length_set]; exact hl, he, ?_, ?_⟩
  · rw [List.length_set]
    exact two_past ht (grown_cell _ _ _ _) (fun e => a2 (Option.some.inj e))
  · have := hr.set (k := k) (by rw [List.length_map]; exact hk) (encW x)
    rw [← List.map_set] at this
    exact this
theorem grown_refl (w : World) (row : Option Nat) : w.grownBy w row := ⟨rfl, rfl, rfl, Nat.le_refl _, fun _ _ _ => rfl⟩
theorem grown_trans {a b c : World} {row : Option Nat} (h : a.grownBy b row) (k : b.grownBy c row) : a.grownBy c row :=
  ⟨k.os.trans h.os, k.tape.trans h.tape, k.output.trans h.output, Nat.le_trans h.size k.size, fun i hi hr => (k.block i (Nat.lt_of_lt_of_le hi h.size) hr).trans (h.block i hi hr)⟩
theorem below_grown {M g : Nat} {w w' : World} (h : w.grownBy w' (some g)) (hM : M ≤ g) (hs : M ≤ w.heap.size) : Below M w w' :=
  (Below.refl M w).grown h hs (fun j e => by cases e; exact hM)
/-- What Has reads. -/
theorem SetAt.word {b g : Nat} {w : World} {n : Nat} {p : Nat → Bool} (h : SetAt b g w n p) {v : Nat} (hv : v < n) :
    ∃ (ws : List Nat), w.cell? ⟨b, 0, none⟩ = some (.int .i64 (n : Int)) ∧ w.cell? ⟨b, 1, none⟩ = some (.slice (some ⟨g, 0, none⟩) ws.length ws.length) ∧ v / 64 < ws.length ∧ w.cell? ⟨g, v / 64, none⟩ = some (.int .u64 (ws.getD (v / 64) 0 : Int)) ∧ w.frozen? ⟨g, v / 64, none⟩ = false ∧ Wordy ws ∧ ws.length = (n + 63) / 64 ∧ p = bitOf ws ∧ RowIs g w (ws.map encW) ∧ TwoAt b w (.int .i64 (n : Int)) (.slice (some ⟨g, 0, none⟩) ws.length ws.length) := by
  obtain ⟨a1, a2, a3, a4, ws, a5, a6, a7, a8, a9⟩ := h
  have hl : v / 64 < ws.length := by omega
  have hr := a9 (v / 64) (by rw [List.length_map]; exact hl)
  rw [List.getElem_map] at hr
  refine ⟨ws, a8.1, a8.2.1, hl, ?_, hr.2, a5, a6, a7, a9, a8⟩
  rw [hr.1, List.getD_eq_getElem?_getD, List.getElem?_eq_getElem hl]
  rfl
theorem has_nil (v : Int) (w : World) :
    Calls Tryd.prog 98 #[.pointer none, .int .i64 v] w fun e w' => e = .returned (.bool false) ∧ ∃ m, w' = w.drewN m := by
  go_enter Tryd.func98, Tryd.ntmps98
  go_wp2_with fail
  go_quiet (first | (go_at_call 97; exact Calls.quiet_of_same (((fits_nil _ _).mono fun _ _ ⟨h1, h2⟩ => ⟨h1, h2.symm⟩))))
  go_wp2
  go_ret
  exact ⟨rfl, _, rfl⟩
theorem has_any (b g n : Nat) (p : Nat → Bool) (v : Int) (w : World) (h : SetAt b g w n p) :
    Calls Tryd.prog 98 #[.pointer (some ⟨b, 0, none⟩), .int .i64 v] w fun e w' => e = .returned (.bool (fitB n v && p v.toNat)) ∧ ∃ m, w' = w.drewN m := by
  have HS := Lib.hid h
  cases hf : fitB n v
  · have HF := Lib.hid hf
    have hc : ∀ k, (w.drewN k).cell? ⟨b, 0, none⟩ = some (.int .i64 (n : Int)) := fun k => by have := (h.drawn k).2.2.2.2; obtain ⟨ws, -, -, -, t, -⟩ := this; exact t.1
    have HC := Lib.hid hc
    clear hf h hc
    go_enter Tryd.func98, Tryd.ntmps98
    go_wp2_with fail
    go_quiet (first | (go_at_call 97; exact Calls.quiet_of_same ((((fits_any b n v _ (HC.out _))).mono fun _ _ ⟨h1, h2⟩ => ⟨by rw [h1, HF.out], h2.symm⟩))))
    go_wp2
    go_ret
    exact ⟨rfl, _, rfl⟩
  · have HF := Lib.hid hf
    obtain ⟨h0, h1⟩ := fit_yes hf
    obtain ⟨u, rfl⟩ := Int.eq_ofNat_of_zero_le h0
    have hun : u < n := by omega
    obtain ⟨ws, c0, c1, hl, c2, f2, hw, hlen, hp, hr, ht⟩ := h.word hun
    have h4 : n ≤ 4096 := h.1
    have hc : ∀ k, (w.drewN k).cell? ⟨b, 0, none⟩ = some (.int .i64 (n : Int)) := fun k => by simpa using c0
    have HC := Lib.hid hc
    have hB : Hid (p u = (ws.getD (u / 64) 0).testBit (u % 64)) := Lib.hid (by rw [hp]; rfl)
    have hx := hw.at (u / 64)
    have hb := Lib.hid (has_bit (ws.getD (u / 64) 0) (u % 64) hx (by omega))
    have i1 : (0 : Int) ≤ ((u : Int) / 64) := by omega
    have i2 : ((u : Int) / 64) < (ws.length : Int) := by omega
    clear hf h hc c0 hlen hw hr ht hp h0 h1
    generalize ws.getD (u / 64) 0 = x at *
    go_enter Tryd.func98, Tryd.ntmps98
    go_wp2_with fail
    go_quiet (first | (go_at_call 97; exact Calls.quiet_of_same ((((fits_any b n _ _ (HC.out _))).mono fun _ _ ⟨h1, h2⟩ => ⟨by rw [h1, HF.out], h2.symm⟩))) | (go_at_call 105; exact Calls.quiet_of_same (((bit_any u (by omega) _).mono fun _ _ ⟨h1, h2⟩ => ⟨h1, h2.symm⟩))))
    go_wp2
    go_ret
    exact ⟨bool_ret (by rw [Bool.true_and]; exact hb.out.trans hB.out.symm), _, rfl⟩
/-- What is in a set behind Put, and behind Drop. -/
def putP (n : Nat) (p : Nat → Bool) (v : Int) (u : Nat) : Bool := p u || (fitB n v && decide ((u : Int) = v))
def dropP (p : Nat → Bool) (v : Int) (u : Nat) : Bool := p u && decide ((u : Int) ≠ v)
theorem putP_same {n : Nat} {p : Nat → Bool} {v : Int} (h : fitB n v = false ∨ p v.toNat = true) : putP n p v = p := by
  funext u
  unfold putP
  rcases h with h | h
  · rw [h]; simp
  · by_cases e : (u : Int) = v
    · subst e; rw [Int.toNat_natCast] at h; simp [h]
    · simp [e]
theorem dropP_same {n : Nat} {p : Nat → Bool} {v : Int} (hp : ∀ v, n ≤ v → p v = false) (h : fitB n v = false ∨ p v.toNat = false) : dropP p v = p := by
  funext u
  unfold dropP
  by_cases e : (u : Int) = v
  · subst e
    have : p u = false := by
      rcases h with h | h
      · refine hp u ?_
        unfold fitB at h
        simp at h
        omega
      · rwa [Int.toNat_natCast] at h
    simp [this]
  · simp [e]
theorem put_nil (v : Int) (w : World) :
    Calls Tryd.prog 95 #[.pointer none, .int .i64 v] w fun e w' => e = .returned (.bool false) ∧ w = w' := by
  go_enter Tryd.func95, Tryd.ntmps95
  go_wp2_with (first | (go_at_call 97; refine (fits_nil _ _).mono ?_; rintro e w' ⟨rfl, rfl⟩))
  go_ret
  exact ⟨rfl, rfl⟩
theorem or_lit (a b : Nat) (ha : a < 18446744073709551616) (hb : b < 18446744073709551616) : bits .or .u64 (a : Int) (b : Int) = ((a ||| b : Nat) : Int) := bits_or_u64_nat a b ha hb
theorem pow_lt (k : Nat) : 2 ^ (k % 64) < 18446744073709551616 := Nat.lt_of_lt_of_le (Nat.pow_lt_pow_right (by decide) (show k % 64 < 64 by omega)) (by decide)
set_option maxRecDepth 100000 in
set_option maxHeartbeats 1000000 in
theorem put_any (b g n : Nat) (p : Nat → Bool) (v : Int) (w : World) (h : SetAt b g w n p) :
    Calls Tryd.prog 95 #[.pointer (some ⟨b, 0, none⟩), .int .i64 v] w fun e w' => e = .returned (.bool (fitB n v && !p v.toNat)) ∧ w.grownBy w' (some g) ∧ SetAt b g w' n (putP n p v) := by
  have hS := Lib.hid h
  have hc : w.cell? ⟨b, 0, none⟩ = some (.int .i64 (n : Int)) := by obtain ⟨ws, -, -, -, t, -⟩ := h.2.2.2.2; exact t.1
  have HC := Lib.hid hc
  cases hf : fitB n v
  · have HF := Lib.hid hf
    clear hf h hc
    go_enter Tryd.func95, Tryd.ntmps95
    go_wp2_with (first | (go_at_call 97; refine (fits_any b n v _ HC.out).mono ?_; rintro e w' ⟨rfl, rfl⟩; rw [HF.out]))
    go_ret
    exact ⟨rfl, grown_refl _ _, by rw [putP_same (Or.inl HF.out)]; exact hS.out⟩
  · have HF := Lib.hid hf
    cases hq : p v.toNat
    · have HQ := Lib.hid hq
      obtain ⟨h0, h1⟩ := fit_yes hf
      obtain ⟨u, rfl⟩ := Int.eq_ofNat_of_zero_le h0
      have hun : u < n := by omega
      obtain ⟨ws, c0, c1, hl, c2, f2, hw, hlen, hp, hr, ht⟩ := h.word hun
      have h4 : n ≤ 4096 := h.1
      have hx := hw.at (u / 64)
      have hor : Hid (bits .or .u64 ((ws.getD (u / 64) 0 : Nat) : Int) ((2 : Int) ^ (u % 64)) = ((ws.getD (u / 64) 0 ||| 2 ^ (u % 64) : Nat) : Int)) := Lib.hid (by
        have := or_lit (ws.getD (u / 64) 0) (2 ^ (u % 64)) hx (pow_lt u)
        rw [Int.natCast_pow] at this
        exact this)
      have i1 : (0 : Int) ≤ ((u / 64 : Nat) : Int) := by omega
      have i2 : ((u / 64 : Nat) : Int) < (ws.length : Int) := by omega
      have hwr : IntKind.i64.wrap ((u : Int) / 64) = ((u / 64 : Nat) : Int) := by rw [IntKind.wrap_i64]; omega
      have hxo : ws.getD (u / 64) 0 ||| 2 ^ (u % 64) < 18446744073709551616 := Nat.or_lt_two_pow (n := 64) hx (pow_lt u)
      have hset : Hid (∀ W : World, SetAt b g W n p → TwoAt b W (.int .i64 (n : Int)) (.slice (some ⟨g, 0, none⟩) ws.length ws.length) → RowIs g W (ws.map encW) → SetAt b g (W.setCell ⟨g, u / 64, none⟩ (.int .u64 ((ws.getD (u / 64) 0 ||| 2 ^ (u % 64) : Nat) : Int))) n (putP n p (u : Int))) :=
        Lib.hid fun W k1 k2 k3 => k1.set (fun v' hv' => by unfold putP; rw [k1.2.2.2.1 v' hv']; have : ¬ (v' : Int) = (u : Int) := by omega
                                                           simp [this]) hl hxo hw hlen k3 k2 (by funext v'; rw [put_bit hl]; unfold putP; rw [HF.out, hp, Bool.true_and, Bool.or_comm]; congr 1; exact decide_eq_decide.2 ⟨fun e => by omega, fun e => by omega⟩)
      have hd : Hid (∀ k, SetAt b g (w.drewN k) n p ∧ TwoAt b (w.drewN k) (.int .i64 (n : Int)) (.slice (some ⟨g, 0, none⟩) ws.length ws.length) ∧ RowIs g (w.drewN k) (ws.map encW)) :=
        Lib.hid fun k => ⟨h.drawn k, ht.on (below_drewN (Below.refl w.heap.size w) k) ht.lt, hr.on (below_drewN (Below.refl w.heap.size w) k) h.lt.2⟩
      clear hf hq h hc c0 hlen hw hr ht hp h0 h1 hx hxo
      generalize ws.getD (u / 64) 0 = x at *
      generalize hqd : u / 64 = q at *
      clear hqd hl
      go_enter Tryd.func95, Tryd.ntmps95
      go_wp2_with (first | (go_at_call 97; refine (fits_any b n (u : Int) _ HC.out).mono ?_; rintro e w' ⟨rfl, rfl⟩; rw [HF.out]) | (go_at_call 98; refine (has_any b g n p (u : Int) _ hS.out).mono ?_; rintro e w' ⟨rfl, m, rfl⟩; rw [HF.out, HQ.out]))
      have c1' : ((w.drewN m).drewN 1).cell? ⟨b, 1, none⟩ = some (.slice (some ⟨g, 0, none⟩) ws.length ws.length) := by simpa using c1
      have c2' : ((w.drewN m).drewN 1).cell? ⟨g, q, none⟩ = some (.int .u64 (x : Int)) := by simpa using c2
      have f2' : ((w.drewN m).drewN 1).frozen? ⟨g, q, none⟩ = false := by simpa using f2
      have hend := Lib.hid (hset.out ((w.drewN m).drewN 1) ((hd.out m).1.drawn 1) ((hd.out m).2.1.on (below_drewN (Below.refl w.heap.size (w.drewN m)) 1) hS.out.lt.1) ((hd.out m).2.2.on (below_drewN (Below.refl w.heap.size (w.drewN m)) 1) hS.out.lt.2))
      have hgr : Hid (w.grownBy ((w.drewN m).drewN 1) (some g)) := Lib.hid (grown_drawn (grown_drawn (grown_refl _ _) m) 1)
      clear c1 c2 f2 hset hd
      refine wp_region_still_tail 12 (by kernel_rfl) (by kernel_rfl) ?_
      change wpStill _ _ ((w.drewN m).drewN 1) _ _ _
      change wpStill _ _ _ (fun a' => wpList _ _ _ _ _ ((w.drewN m).drewN 1)) _ _
      generalize (w.drewN m).drewN 1 = W at *
      simp only [List.take_succ_cons, List.take_zero, List.drop_succ_cons, List.drop_zero]
      repeat still_step
      still_call ((bit_any u (by omega) _).mono fun _ _ ⟨h1, h2⟩ => ⟨h1, h2.symm⟩)
      repeat still_step
      refine wpStill_nil ?_
      go_wp2
      rw [hor.out]
      go_ret
      exact ⟨rfl, grown_trans hgr.out (grown_cell _ _ _ _), hend.out⟩
    · have HQ := Lib.hid hq
      clear hf hq h hc
      go_enter Tryd.func95, Tryd.ntmps95
      go_wp2_with (first | (go_at_call 97; refine (fits_any b n v _ HC.out).mono ?_; rintro e w' ⟨rfl, rfl⟩; rw [HF.out]) | (go_at_call 98; refine (has_any b g n p v _ hS.out).mono ?_; rintro e w' ⟨rfl, m, rfl⟩; rw [HF.out, HQ.out]))
      go_ret
      exact ⟨rfl, grown_drawn (grown_refl _ _) _, by rw [putP_same (Or.inr HQ.out)]; exact hS.out.drawn _⟩
end Go.Proofs.YtceejjgmepaonaaDoor.Vs
/- A new set is empty and has the room that was asked for (beside net). -/
namespace Go.Proofs.YtceejjgmepaonaaDoor.Vs
open Go.RowKit Go.ChangeShapes VsetPure
/-- The room that is made where n is asked for. -/
def roomN (n : Int) : Nat := (min (max n 0) 4096).toNat
theorem roomN_le (n : Int) : roomN n ≤ 4096 := by unfold roomN; omega
theorem roomN_of (n : Nat) (h : n ≤ 4096) : roomN (n : Int) = n := by unfold roomN; omega
theorem make_words (k : Nat) (hk : k ≤ 1000000) (w : World) :
    (Instr.makeSlice 167 (.int .i64 (k : Int)) (.int .i64 (k : Int))).run Tryd.prog w = .ok (.slice (some ⟨w.heap.size, 0, none⟩) k k) (w.alloc (.cells (madeCells #[.int .u64 0] k) 137)) :=
  makeRow Tryd.underlying167 (z := .int .u64 0) (c := 8) (by kernel_rfl) (by omega) rfl k hk w
def noneP (_ : Nat) : Bool := false
theorem bit_noughts (k : Nat) : bitOf (List.replicate k 0) = noneP := by
  funext v
  unfold bitOf noneP
  rw [List.getD_eq_getElem?_getD, List.getElem?_replicate]
  split <;> simp
theorem set_new (w : World) (n : Nat) (hn : n ≤ 4096) (k : Nat) (hk : k = (n + 63) / 64) (T T' : TypeId) :
    SetAt (w.heap.size + 1) w.heap.size ((w.alloc (.cells (madeCells #[.int .u64 0] k) T)).alloc (.cells #[.int .i64 (n : Int), .slice (some ⟨w.heap.size, 0, none⟩) k k] T')) n noneP := by
  refine ⟨hn, by omega, by simp; omega, fun _ _ => rfl, List.replicate k 0, ?_, by simpa using hk, (bit_noughts k).symm, ?_, ?_⟩
  · intro x hx
    rw [List.eq_of_mem_replicate hx]; decide
  · rw [List.length_replicate]
    have := TwoAt.new (w.alloc (.cells (madeCells #[.int .u64 0] k) T)) (.int .i64 (n : Int)) (.slice (some ⟨w.heap.size, 0, none⟩) k k) T'
    rwa [World.size_alloc] at this
  · have h1 := rowIs_made w (.int .u64 0) k T
    have h2 := h1.on (M := w.heap.size + 1) ((Below.refl _ (w.alloc (.cells (madeCells #[.int .u64 0] k) T))).alloc (by simp) (.cells #[.int .i64 (n : Int), .slice (some ⟨w.heap.size, 0, none⟩) k k] T')) (by omega)
    rw [List.map_replicate]
    exact h2
theorem new_any (n : Int) (h0 : -9223372036854775808 ≤ n) (h1 : n ≤ 9223372036854775807) (w : World) :
    Calls Tryd.prog 94 #[.int .i64 n] w fun e w' => e = .returned (.pointer (some ⟨w.heap.size + 1, 0, none⟩)) ∧ Below w.heap.size w w' ∧ SetAt (w.heap.size + 1) w.heap.size w' (roomN n) noneP := by
  obtain ⟨m, hm⟩ : ∃ m, m = roomN n := ⟨_, rfl⟩
  have hm4 := roomN_le n
  rw [← hm] at hm4 ⊢
  have hk := make_words ((m + 63) / 64) (by omega) w
  have hB : ∀ T T', Below w.heap.size w ((w.alloc (.cells (madeCells #[.int .u64 0] ((m + 63) / 64)) T)).alloc (.cells #[.int .i64 (m : Int), .slice (some ⟨w.heap.size, 0, none⟩) ((m + 63) / 64) ((m + 63) / 64)] T')) := fun T T' => ((Below.refl _ w).alloc (Nat.le_refl _) _).alloc (by simp) _
  have HB := Lib.hid hB
  have HS := Lib.hid (fun T T' => set_new w m hm4 ((m + 63) / 64) rfl T T')
  clear hB
  by_cases a : n < 0
  · have hz : m = 0 := by rw [hm]; unfold roomN; omega
    clear hm hm4
    subst hz
    have hk' : (Instr.makeSlice 167 (.int .i64 0) (.int .i64 0)).run Tryd.prog w = .ok (.slice (some ⟨w.heap.size, 0, none⟩) 0 0) (w.alloc (.cells (madeCells #[.int .u64 0] 0) 137)) := hk
    clear hk
    have a1 : max n 0 = 0 := by omega
    go_enter Tryd.func94, Tryd.ntmps94
    go_wp2
    go_ret
    exact ⟨rfl, HB.out _ _, HS.out _ _⟩
  · by_cases b : 4096 < n
    · have hz : m = 4096 := by rw [hm]; unfold roomN; omega
      clear hm hm4
      subst hz
      have hk' : (Instr.makeSlice 167 (.int .i64 64) (.int .i64 64)).run Tryd.prog w = .ok (.slice (some ⟨w.heap.size, 0, none⟩) 64 64) (w.alloc (.cells (madeCells #[.int .u64 0] 64) 137)) := hk
      clear hk
      have a1 : ¬ max n 0 < 4096 := by omega
      go_enter Tryd.func94, Tryd.ntmps94
      go_wp2
      go_ret
      exact ⟨rfl, HB.out _ _, HS.out _ _⟩
    · have hz : n = (m : Int) := by rw [hm]; unfold roomN; omega
      clear hm hm4
      subst hz
      rw [show (((m + 63) / 64 : Nat) : Int) = ((m : Int) + 64 - 1) / 64 by omega] at hk
      go_enter Tryd.func94, Tryd.ntmps94
      go_wp2
      go_ret
      exact ⟨rfl, HB.out _ _, HS.out _ _⟩
end Go.Proofs.YtceejjgmepaonaaDoor.Vs
/- The set of a list: those of its numbers for which there is room (beside net). -/
namespace Go.Proofs.YtceejjgmepaonaaDoor.Vs
open Go.RowKit Go.ChangeShapes VsetPure
/-- What is in the set of a list. -/
def ofP (m : Nat) (l : List Int) (u : Nat) : Bool := l.any fun v => fitB m v && decide ((u : Int) = v)
theorem ofP_nil (m : Nat) : ofP m [] = noneP := rfl
theorem ofP_next (m : Nat) (l : List Int) {k : Nat} (hk : k < l.length) : ofP m (l.take (k + 1)) = putP m (ofP m (l.take k)) l[k] := by
  funext u
  unfold ofP putP
  rw [take_snoc l k hk, List.any_append]
  simp
theorem ofP_none (m : Nat) (l : List Int) (v : Nat) (hv : m ≤ v) : ofP m l v = false := by
  unfold ofP
  rw [List.any_eq_false]
  intro x _ h
  simp [fitB] at h
  omega
def OfRel (bo go m : Nat) (l : List Int) (w0 : World) (k : Nat) (w : World) : Prop := k ≤ l.length ∧ Below w0.heap.size w0 w ∧ SetAt bo go w m (ofP m (l.take k))
theorem of_any (n : Int) (h0 : -9223372036854775808 ≤ n) (h1 : n ≤ 9223372036854775807) (a : Option Addr) (cap : Nat) (l : List Int) (w : World) (hl : ReadsL (encInt .i64) w.heap.size w a l) (hm : l.length ≤ 100000) :
    Calls Tryd.prog 75 #[.int .i64 n, .slice a l.length cap] w fun e w' => e = .returned (.pointer (some ⟨w.heap.size + 1, 0, none⟩)) ∧ Below w.heap.size w w' ∧ SetAt (w.heap.size + 1) w.heap.size w' (roomN n) (ofP (roomN n) l) := by
  have HL := Lib.hid hl
  clear hl
  go_enter Tryd.func75, Tryd.ntmps75
  go_wp2_with (first | (go_at_call 94; refine (new_any n h0 h1 w).mono ?_; rintro e w1 ⟨rfl, hb1, hs1⟩))
  have HS : Hid (OfRel (w.heap.size + 1) w.heap.size (roomN n) l w 0 w1) := Lib.hid ⟨Nat.zero_le _, hb1, by rw [List.take_zero, ofP_nil]; exact hs1⟩
  clear hb1 hs1
  have HN : Hid (w.heap.size ≤ w.heap.size) := Lib.hid (Nat.le_refl _)
  go_loopw [12] (fun i wr => ∃ k : Nat, i = .int .i64 k ∧ Hid (OfRel (w.heap.size + 1) w.heap.size (roomN n) l w k wr)) (fun i _ => l.length - (intOf i).toNat)
  case atStart => exact ⟨0, rfl, HS⟩
  case round =>
    obtain ⟨k, rfl, HK⟩ := hrel
    have hk := HK.out.1
    have i0 : (0 : Int) ≤ (k : Int) := by omega
    by_cases hlt : k < l.length
    · have i1 : (k : Int) < (l.length : Int) := by omega
      obtain ⟨b, off, rfl, hbN, c0⟩ := HL.out.at hlt
      have d1 := (HK.out.2.1.cell (p := ⟨b, off + k, none⟩) hbN).trans c0
      unfold encInt at d1
      have HX := Lib.hid (ofP_next (roomN n) l hlt)
      have HK2 := HK.out
      obtain ⟨-, hbel, hset⟩ := HK2
      have HB := Lib.hid hbel
      have HSet := Lib.hid hset
      clear hbel hset c0
      generalize l[k] = x at *
      go_wp2_with (first | (go_at_call 95; refine (put_any _ _ _ _ x _ HSet.out).mono ?_; rintro e w2 ⟨rfl, hg2, hs2⟩; have HG2 := Lib.hid hg2; have HS2 := Lib.hid hs2; clear hg2 hs2))
      go_roundw
      case rel => exact ⟨k + 1, by go_num, Lib.hid ⟨hlt, HB.out.trans (below_grown HG2.out (Nat.le_refl _) HB.out.size), by rw [HX.out]; exact HS2.out⟩⟩
      case measure => (simp [intOf] <;> omega)
    · have hke : k = l.length := by omega
      have hfin := HK.out.2
      rw [hke, List.take_length] at hfin
      have HF := Lib.hid hfin
      clear hfin
      go_wp2
      go_ret
      exact ⟨rfl, HF.out.1, HF.out.2⟩
end Go.Proofs.YtceejjgmepaonaaDoor.Vs
