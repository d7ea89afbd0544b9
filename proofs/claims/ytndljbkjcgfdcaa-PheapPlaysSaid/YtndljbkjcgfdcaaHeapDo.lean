/- Contract of the law's call on both heaps: they answer alike. -/
import Derived.Test.YtndljbkjcgfdcaaHeapPlay
import Derived.Deep.RegionHeld3
namespace Go.Proofs.Ytndljbkjcgfdcaa
open Go.RowKit Go.ChangeShapes NdPure HpPure HeapPure
section
variable {w : World} {B : Bl} {R : Rb} {Q : Nat → Prop} {A : List (Option Int)} {lk : Int}
/-- Both heaps are turned alike. -/
def DoOut (w : World) (B : Bl) (R : Rb) (Q : Nat → Prop) (A : List (Option Int)) (lk : Int) (W : World) : Prop := ∃ l', lk ≤ l' ∧ l' ≤ lk + 4097 ∧ PlayQ w B R Q A A l' W
set_option maxRecDepth 100000 in
set_option maxHeartbeats 8000000 in
theorem do_run (W : World) (ko v key : Int) (h : PlayQ w B R Q A A lk W) (hl : lk ≤ 1000000000000) :
    Calls Try.prog 10 #[.pointer (some ⟨B.b, 0, none⟩), .pointer (some ⟨R.b, 0, none⟩), .agg #[.int .i64 ko, .int .i64 v, .int .i64 key]] W fun e W' => e = .returned (.bool true) ∧ DoOut w B R Q (stepA A ko v key) lk W' := by
  have HQR := Lib.hid h.2.2
  have HW := Lib.hid (h.more (.cells #[.int .i64 ko, .int .i64 v, .int .i64 key] 35))
  have HNR : Hid (¬ RQ R W.heap.size) := Lib.hid (fun e => by have := h.2.1.lt _ e; omega)
  have HSz : Hid (∀ k, Q k → k < W.heap.size) := Lib.hid fun k e => (h.1.2.1 k e).2
  have T0 := ThreeAt.new W (.int .i64 ko) (.int .i64 v) (.int .i64 key) 35
  clear h
  have HD : Hid (PlayQ w B R (fun k => Q k ∨ k = W.heap.size) A A lk (W.alloc (.cells #[.int .i64 ko, .int .i64 v, .int .i64 key] 35)).drew) := Lib.hid (HW.out.drawn 1)
  have C1 : Hid ((W.alloc (.cells #[.int .i64 ko, .int .i64 v, .int .i64 key] 35)).drew.cell? ⟨W.heap.size, 1, none⟩ = some (.int .i64 v)) := Lib.hid T0.2.1
  have C2 : Hid ((W.alloc (.cells #[.int .i64 ko, .int .i64 v, .int .i64 key] 35)).drew.cell? ⟨W.heap.size, 2, none⟩ = some (.int .i64 key)) := Lib.hid T0.2.2.1
  clear T0
  by_cases k0 : ko = 0
  · subst k0
    have HST : Hid (stepA A 0 v key = pushA A v key) := Lib.hid (if_pos rfl)
    generalize hb : pushB A v = bb at *
    have HRES := Lib.hid hb
    have t0 : (bb == bb) = true := beq_self_eq_true _
    clear hb HW
    go_enter Try.func10, Try.ntmps10
    go_wp2_with fail
    have y1 : (W.alloc (.cells #[.int .i64 0, .int .i64 v, .int .i64 key] 35)).drew.cell? ⟨W.heap.size, 1, none⟩ = some (.int .i64 v) := C1.out
    have y2 : (W.alloc (.cells #[.int .i64 0, .int .i64 v, .int .i64 key] 35)).drew.cell? ⟨W.heap.size, 2, none⟩ = some (.int .i64 key) := C2.out
    go_region_held3 (fun W' => W'.cell? ⟨W.heap.size, 1, none⟩ = some (.int .i64 v) ∧ W'.cell? ⟨W.heap.size, 2, none⟩ = some (.int .i64 key))
      (first
        | exact ⟨y1, y2⟩
        | exact ⟨z1, z2⟩
        | exact ⟨u1, u2⟩
        | go_keep)
      (first
        | (go_at_call 16; refine (HD.out.call (fun O hi => push_run _ v key hi hl)).mono ?_; rintro e w3 ⟨rfl, ⟨l3, b1, b2, h3⟩, hk⟩; have z1 := (World.cell?_of_block (a := ⟨W.heap.size, 1, none⟩) (hk W.heap.size (Or.inr rfl))).trans C1.out; have z2 := (World.cell?_of_block (a := ⟨W.heap.size, 2, none⟩) (hk W.heap.size (Or.inr rfl))).trans C2.out; rw [HRES.out]; have H3 := Lib.hid h3; clear h3 hk)
        | (go_at_call 23; refine (pushR_run _ v key H3.out.2.1).mono ?_; rintro e w4 ⟨rfl, ht, hr⟩; have h4 := H3.out.ref ht hr; have u1 := (World.cell?_of_block (a := ⟨W.heap.size, 1, none⟩) (h4.2 W.heap.size (Or.inr rfl) HNR.out)).trans z1; have u2 := (World.cell?_of_block (a := ⟨W.heap.size, 2, none⟩) (h4.2 W.heap.size (Or.inr rfl) HNR.out)).trans z2; rw [HRES.out]; have H4 := Lib.hid h4.1; clear h4 ht hr))
    go_wp2
    go_ret
    exact ⟨rfl, l3, b1, b2, by rw [HST.out]; exact H4.out.mono (fun k e => Or.inl e) HQR.out⟩
  by_cases k1 : ko = 1
  · subst k1
    have HST : Hid (stepA A 1 v key = raiseA A v key) := Lib.hid (by unfold stepA; rw [if_neg (by decide), if_pos rfl])
    generalize hb : raiseB A v key = bb at *
    have HRES := Lib.hid hb
    have t0 : (bb == bb) = true := beq_self_eq_true _
    clear hb HW k0
    go_enter Try.func10, Try.ntmps10
    go_wp2_with fail
    have y1 : (W.alloc (.cells #[.int .i64 1, .int .i64 v, .int .i64 key] 35)).drew.cell? ⟨W.heap.size, 1, none⟩ = some (.int .i64 v) := C1.out
    have y2 : (W.alloc (.cells #[.int .i64 1, .int .i64 v, .int .i64 key] 35)).drew.cell? ⟨W.heap.size, 2, none⟩ = some (.int .i64 key) := C2.out
    go_region_held3 (fun W' => W'.cell? ⟨W.heap.size, 1, none⟩ = some (.int .i64 v) ∧ W'.cell? ⟨W.heap.size, 2, none⟩ = some (.int .i64 key))
      (first
        | exact ⟨y1, y2⟩
        | exact ⟨z1, z2⟩
        | exact ⟨u1, u2⟩
        | go_keep)
      (first
        | (go_at_call 17; refine (HD.out.call (fun O hi => raise_run _ v key hi hl)).mono ?_; rintro e w3 ⟨rfl, ⟨l3, b1, b2, h3⟩, hk⟩; have z1 := (World.cell?_of_block (a := ⟨W.heap.size, 1, none⟩) (hk W.heap.size (Or.inr rfl))).trans C1.out; have z2 := (World.cell?_of_block (a := ⟨W.heap.size, 2, none⟩) (hk W.heap.size (Or.inr rfl))).trans C2.out; rw [HRES.out]; have H3 := Lib.hid h3; clear h3 hk)
        | (go_at_call 24; refine (raiseR_run _ v key H3.out.2.1).mono ?_; rintro e w4 ⟨rfl, ht, hr⟩; have h4 := H3.out.ref ht hr; have u1 := (World.cell?_of_block (a := ⟨W.heap.size, 1, none⟩) (h4.2 W.heap.size (Or.inr rfl) HNR.out)).trans z1; have u2 := (World.cell?_of_block (a := ⟨W.heap.size, 2, none⟩) (h4.2 W.heap.size (Or.inr rfl) HNR.out)).trans z2; rw [HRES.out]; have H4 := Lib.hid h4.1; clear h4 ht hr))
    go_wp2
    go_ret
    exact ⟨rfl, l3, b1, b2, by rw [HST.out]; exact H4.out.mono (fun k e => Or.inl e) HQR.out⟩
  by_cases k3 : ko = 3
  · subst k3
    have HST : Hid (stepA A 3 v key = dropA A v) := Lib.hid (by unfold stepA; rw [if_neg (by decide), if_neg (by decide), if_pos rfl])
    generalize hb : inA A v = bb at *
    have HRES := Lib.hid hb
    have t0 : (bb == bb) = true := beq_self_eq_true _
    clear hb HW k0 k1
    go_enter Try.func10, Try.ntmps10
    go_wp2_with fail
    have y1 : (W.alloc (.cells #[.int .i64 3, .int .i64 v, .int .i64 key] 35)).drew.cell? ⟨W.heap.size, 1, none⟩ = some (.int .i64 v) := C1.out
    have y2 : (W.alloc (.cells #[.int .i64 3, .int .i64 v, .int .i64 key] 35)).drew.cell? ⟨W.heap.size, 2, none⟩ = some (.int .i64 key) := C2.out
    go_region_held3 (fun W' => W'.cell? ⟨W.heap.size, 1, none⟩ = some (.int .i64 v) ∧ W'.cell? ⟨W.heap.size, 2, none⟩ = some (.int .i64 key))
      (first
        | exact ⟨y1, y2⟩
        | exact ⟨z1, z2⟩
        | exact ⟨u1, u2⟩
        | go_keep)
      (first
        | (go_at_call 20; refine (HD.out.call (fun O hi => drop_run _ v hi hl)).mono ?_; rintro e w3 ⟨rfl, ⟨l3, b1, b2, h3⟩, hk⟩; have z1 := (World.cell?_of_block (a := ⟨W.heap.size, 1, none⟩) (hk W.heap.size (Or.inr rfl))).trans C1.out; have z2 := (World.cell?_of_block (a := ⟨W.heap.size, 2, none⟩) (hk W.heap.size (Or.inr rfl))).trans C2.out; rw [HRES.out]; have H3 := Lib.hid h3; clear h3 hk)
        | (go_at_call 25; refine (dropR_run _ v H3.out.2.1).mono ?_; rintro e w4 ⟨rfl, ht, hr⟩; have h4 := H3.out.ref ht hr; have u1 := (World.cell?_of_block (a := ⟨W.heap.size, 1, none⟩) (h4.2 W.heap.size (Or.inr rfl) HNR.out)).trans z1; have u2 := (World.cell?_of_block (a := ⟨W.heap.size, 2, none⟩) (h4.2 W.heap.size (Or.inr rfl) HNR.out)).trans z2; rw [HRES.out]; have H4 := Lib.hid h4.1; clear h4 ht hr))
    go_wp2
    go_ret
    exact ⟨rfl, l3, b1, b2, by rw [HST.out]; exact H4.out.mono (fun k e => Or.inl e) HQR.out⟩
  have HW2 : Hid (PlayQ w B R (fun k => (Q k ∨ k = W.heap.size) ∨ k = W.heap.size + 1) A A lk ((W.alloc (.cells #[.int .i64 ko, .int .i64 v, .int .i64 key] 35)).alloc (.cells #[.int .i64 0, .int .i64 0, .bool false] 55))) := Lib.hid (by
    have := HW.out.more (.cells #[.int .i64 0, .int .i64 0, .bool false] 55)
    rwa [show (W.alloc (.cells #[.int .i64 ko, .int .i64 v, .int .i64 key] 35)).heap.size = W.heap.size + 1 by simp] at this)
  have T2 : Hid (ThreeAt (W.heap.size + 1) ((W.alloc (.cells #[.int .i64 ko, .int .i64 v, .int .i64 key] 35)).alloc (.cells #[.int .i64 0, .int .i64 0, .bool false] 55)) (.int .i64 0) (.int .i64 0) (.bool false)) := Lib.hid (by
    have := ThreeAt.new (W.alloc (.cells #[.int .i64 ko, .int .i64 v, .int .i64 key] 35)) (.int .i64 0) (.int .i64 0) (.bool false) 55
    rwa [show (W.alloc (.cells #[.int .i64 ko, .int .i64 v, .int .i64 key] 35)).heap.size = W.heap.size + 1 by simp] at this)
  have HNR2 : Hid (¬ RQ R (W.heap.size + 1)) := Lib.hid (fun e => by have := HSz.out _ (HQR.out _ e); omega)
  have e0 : (ko == 0) = false := by simpa using k0
  have e1 : (ko == 1) = false := by simpa using k1
  have e3 : (ko == 3) = false := by simpa using k3
  clear HD C1 C2 HNR HW
  generalize hva : topV A = a at *
  have HVA := Lib.hid hva
  generalize hka : topK A = b at *
  have HKA := Lib.hid hka
  generalize hba : topB A = c at *
  have HBA := Lib.hid hba
  have s0 : (a == a) = true := beq_self_eq_true _
  have s1 : (b == b) = true := beq_self_eq_true _
  have s2 : (c == c) = true := beq_self_eq_true _
  clear hva hka hba
  by_cases k2 : ko = 2
  · subst k2
    have HST : Hid (stepA A 2 v key = popA A) := Lib.hid (by unfold stepA; rw [if_neg (by decide), if_neg (by decide), if_neg (by decide), if_pos rfl])
    clear k0 k1 k3 e0 e1 e3
    go_enter Try.func10, Try.ntmps10
    go_wp2_with fail
    refine (HW2.out.call (fun O hi => pop_run _ hi hl)).mono ?_
    rintro e w3 ⟨rfl, ⟨l3, b1, b2, h3⟩, hk⟩
    rw [HVA.out, HKA.out, HBA.out]
    have H3 := Lib.hid h3
    have U3 := Lib.hid (three_keep T2.out (hk (W.heap.size + 1) (Or.inr rfl)))
    clear h3 hk HW2 T2
    go_wp2_with fail
    refine (popR_run _ H3.out.2.1).mono ?_
    rintro e w4 ⟨rfl, ht, hr⟩
    rw [HVA.out, HKA.out, HBA.out]
    have h4 := H3.out.ref ht hr
    have H4 := Lib.hid h4.1
    have U4 := Lib.hid (three_keep U3.out (h4.2 (W.heap.size + 1) (Or.inr rfl) HNR2.out))
    clear h4 ht hr H3 U3
    obtain ⟨z0, z1, z2, g0, g1, g2⟩ := U4.out
    have hb := U4.out.lt
    have H5 := Lib.hid (H4.out.put (turn_three w4 (W.heap.size + 1) a b c) (fun k e => Or.inr e) (fun k e => by rw [show k = W.heap.size + 1 from e]; exact HNR2.out))
    clear U4 H4 HNR2
    generalize W.heap.size + 1 = Bw at *
    go_wp2
    go_ret
    exact ⟨rfl, l3, b1, b2, by rw [HST.out]; exact H5.out.mono (fun k e => Or.inl (Or.inl e)) HQR.out⟩
  · have e2 : (ko == 2) = false := by simpa using k2
    have HST : Hid (stepA A ko v key = A) := Lib.hid (by unfold stepA; rw [if_neg k0, if_neg k1, if_neg k3, if_neg k2])
    clear k0 k1 k3 k2
    have b1 : lk ≤ lk := Int.le_refl _
    have b2 : lk ≤ lk + 4097 := by omega
    obtain ⟨O, hi⟩ := HW2.out.1.is
    have HI := Lib.hid hi
    clear hi
    go_enter Try.func10, Try.ntmps10
    go_wp2_with fail
    refine (top_run _ HI.out).mono ?_
    rintro e w3 ⟨rfl, hb3⟩
    rw [HVA.out, HKA.out, HBA.out]
    have H3 := Lib.hid (HW2.out.keep hb3)
    have U3 := Lib.hid (T2.out.on hb3 T2.out.lt)
    clear hb3 HW2 T2 HI
    go_wp2_with fail
    refine (firstR_run _ H3.out.2.1).mono ?_
    rintro e w4 ⟨rfl, hb4⟩
    rw [HVA.out, HKA.out, HBA.out]
    have H4 := Lib.hid (H3.out.keep hb4)
    have U4 := Lib.hid (U3.out.on hb4 U3.out.lt)
    clear hb4 H3 U3
    obtain ⟨z0, z1, z2, g0, g1, g2⟩ := U4.out
    have hb := U4.out.lt
    have H5 := Lib.hid (H4.out.put (turn_three w4 (W.heap.size + 1) a b c) (fun k e => Or.inr e) (fun k e => by rw [show k = W.heap.size + 1 from e]; exact HNR2.out))
    clear U4 H4 HNR2
    generalize W.heap.size + 1 = Bw at *
    go_wp2
    go_ret
    exact ⟨rfl, lk, b1, b2, by rw [HST.out]; exact H5.out.mono (fun k e => Or.inl (Or.inl e)) HQR.out⟩
end
end Go.Proofs.Ytndljbkjcgfdcaa
