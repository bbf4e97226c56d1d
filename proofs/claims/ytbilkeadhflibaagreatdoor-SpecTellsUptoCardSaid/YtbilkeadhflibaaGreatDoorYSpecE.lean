/- What the document's own Words answers of any job (chapter 11); of memory that was there nothing turns. -/
import Derived.Test.YtbilkeadhflibaaGreatDoorYSpecD
import Derived.Test.YtbilkeadhflibaaGreatDoorSRefT
namespace Go.Proofs.YtbilkeadhflibaaGreatDoor.Job
open Go.RowKit Go.Proofs.YtbilkeadhflibaaGreatDoor.Wire Go.Proofs.YtbilkeadhflibaaGreatDoor.Vec Go.Proofs.YtbilkeadhflibaaGreatDoor.Sel Go.Proofs.YtbilkeadhflibaaGreatDoor.Texts

section
variable {ops : Array Oper} {j : Nat} {ρ : Operand → Value} {x : Operand} {w : World} {b i : Nat}
theorem load_intT {n : Int} (ho : Step.opAt ops j = some (.load 3 x)) (hx : ρ x = .pointer (some ⟨b, i, none⟩)) (h : w.cell? ⟨b, i, none⟩ = some (.int .i64 n)) : Step.runAt Tryz.prog ops j ρ w = .ok (.value (.int .i64 n)) w := by
  refine Step.run_of ho fun o hop => ?_
  unfold execOp
  rw [hop]
  simp only [hx]
  go_simp
theorem load_terms {a : Option Addr} {n c : Nat} (ho : Step.opAt ops j = some (.load 31 x)) (hx : ρ x = .pointer (some ⟨b, i, none⟩)) (h : w.cell? ⟨b, i, none⟩ = some (.slice a n c)) : Step.runAt Tryz.prog ops j ρ w = .ok (.value (.slice a n c)) w := by
  refine Step.run_of ho fun o hop => ?_
  unfold execOp
  rw [hop]
  simp only [hx]
  go_simp
theorem load_vec1 {n0 n1 n2 n3 : Int} (ho : Step.opAt ops j = some (.load 30 x)) (hx : ρ x = .pointer (some ⟨b, 1, none⟩))
    (h : w.cell? ⟨b, 1, none⟩ = some (.int .u64 n0) ∧ w.cell? ⟨b, 2, none⟩ = some (.int .u64 n1) ∧ w.cell? ⟨b, 3, none⟩ = some (.int .u64 n2) ∧ w.cell? ⟨b, 4, none⟩ = some (.int .u64 n3)) : Step.runAt Tryz.prog ops j ρ w = .ok (.value (.agg #[.int .u64 n0, .int .u64 n1, .int .u64 n2, .int .u64 n3])) w := by
  obtain ⟨h0, h1, h2, h3⟩ := h
  refine Step.run_of ho fun o hop => ?_
  unfold execOp
  rw [hop]
  simp only [hx]
  go_simp
theorem conv_run {n N : Int} (hN : IntKind.u64.wrap n = N) (ho : Step.opAt ops j = some (.convert 3 22 x)) (hx : ρ x = .int .i64 n) : Step.runAt Tryz.prog ops j ρ w = .ok (.value (.int .u64 N)) w := by
  refine Step.run_of ho fun o hop => ?_
  unfold execOp
  rw [hop]
  simp only [hx]
  go_simp
end
set_option maxHeartbeats 4000000 in
set_option maxRecDepth 100000 in
theorem refWords9 (p PV D0 D1 D2 Z : ByteArray) (A0 A1 A2 A3 n m k N0 N1 N2 : Int) (sa : Option Addr) (sn sc : Nat) (w : World) (w0 : IntKind.u64.wrap n = N0) (w1 : IntKind.u64.wrap m = N1) (w2 : IntKind.u64.wrap k = N2)
    (HV : Hid (∀ W, Calls Tryz.prog 103 #[.agg #[.int .u64 A0, .int .u64 A1, .int .u64 A2, .int .u64 A3]] W fun e w' => e = .returned (.string PV) ∧ Below W.heap.size W w'))
    (HD0 : Hid (∀ W, Calls Tryz.prog 84 #[.int .u64 N0] W fun e w' => e = .returned (.string D0) ∧ Below W.heap.size W w'))
    (HD1 : Hid (∀ W, Calls Tryz.prog 84 #[.int .u64 N1] W fun e w' => e = .returned (.string D1) ∧ Below W.heap.size W w'))
    (HD2 : Hid (∀ W, Calls Tryz.prog 84 #[.int .u64 N2] W fun e w' => e = .returned (.string D2) ∧ Below W.heap.size W w'))
    (HS : Hid (∀ W, Below (w.heap.size + 1) (w.alloc (box9R p A0 A1 A2 A3 n m k (.slice sa sn sc))) W → Calls Tryz.prog 87 #[.slice sa sn sc] W fun e w' => e = .returned (.string Z) ∧ Below W.heap.size W w')) :
    Calls Tryz.prog 61 #[val9 p A0 A1 A2 A3 n m k (.slice sa sn sc)] w fun e w' => (∃ g, e = .returned (.slice (some ⟨g, 0, none⟩) 6 6) ∧ w'.heap[g]? = some (.cells #[.string p, .string PV, .string D0, .string D1, .string D2, .string Z] 9)) ∧ Below w.heap.size w w' := by
  unfold val9
  go_enter Tryz.func61, Tryz.ntmps61
  go_upto_region 1 with fail
  have hx := heap_alloc_new w (box9R p A0 A1 A2 A3 n m k (.slice sa sn sc))
  have b0 := grew w (box9R p A0 A1 A2 A3 n m k (.slice sa sn sc))
  have hsz : (w.alloc (box9R p A0 A1 A2 A3 n m k (.slice sa sn sc))).heap.size = w.heap.size + 1 := World.size_alloc ..
  rw [← hsz] at HS
  obtain ⟨T, hTe⟩ : ∃ T, T = w.heap.size := ⟨_, rfl⟩
  have hTl : T < (w.alloc (box9R p A0 A1 A2 A3 n m k (.slice sa sn sc))).heap.size := by rw [hsz, hTe]; omega
  rw [← hTe] at hx ⊢
  clear hsz
  unfold box9R at hx b0 HS hTl
  generalize w.alloc _ = v0 at hx b0 HS hTl ⊢
  obtain ⟨c, _⟩ := cells9R hx
  have HCl := Lib.hid c
  have HL : Hid (T < v0.heap.size) := Lib.hid hTl
  have HB := Lib.hid b0
  clear hx c b0 hTe hTl
  have q0 : Below v0.heap.size v0 v0.drew := (Below.refl _ _).drew
  refine wp_region_held_drew (S := fun z => Below v0.heap.size v0 z) (by kernel_rfl) q0 (fun hHeld => ?_)
  (refine Step.take (i := 0) (d := some 3) (v := .pointer (some ⟨T, 0, none⟩)) (by kernel_rfl) (by kernel_rfl) (by kernel_rfl) (by kernel_rfl) (by kernel_rfl) (fun _ _ _ h => h) hHeld (fun z hSw => by kernel_rfl) ?_)
  (refine Step.take (i := 1) (d := some 4) (v := .string p) (by kernel_rfl) (by kernel_rfl) (by kernel_rfl) (by kernel_rfl) (by kernel_rfl) (fun _ _ _ h => h) hHeld (fun z hSw => load_str (x := .tmp 3) (b := T) (i := 0) (by kernel_rfl) (by kernel_rfl) ((hSw.cell (p := ⟨T, 0, none⟩) HL.out).trans HCl.out.1)) ?_)
  (refine Step.take (i := 2) (d := some 5) (v := .pointer (some ⟨T, 1, none⟩)) (by kernel_rfl) (by kernel_rfl) (by kernel_rfl) (by kernel_rfl) (by kernel_rfl) (fun _ _ _ h => h) hHeld (fun z hSw => by kernel_rfl) ?_)
  (refine Step.take (i := 3) (d := some 6) (v := .agg #[.int .u64 A0, .int .u64 A1, .int .u64 A2, .int .u64 A3]) (by kernel_rfl) (by kernel_rfl) (by kernel_rfl) (by kernel_rfl) (by kernel_rfl) (fun _ _ _ h => h) hHeld (fun z hSw => load_vec1 (x := .tmp 5) (b := T) (by kernel_rfl) (by kernel_rfl) ⟨((hSw.cell (p := ⟨T, 1, none⟩) HL.out).trans HCl.out.2.1), ((hSw.cell (p := ⟨T, 2, none⟩) HL.out).trans HCl.out.2.2.1), ((hSw.cell (p := ⟨T, 3, none⟩) HL.out).trans HCl.out.2.2.2.1), ((hSw.cell (p := ⟨T, 4, none⟩) HL.out).trans HCl.out.2.2.2.2.1)⟩) ?_)
  (refine Step.take (i := 5) (d := some 8) (v := .pointer (some ⟨T, 5, none⟩)) (by kernel_rfl) (by kernel_rfl) (by kernel_rfl) (by kernel_rfl) (by kernel_rfl) (fun _ _ _ h => h) hHeld (fun z hSw => by kernel_rfl) ?_)
  (refine Step.take (i := 6) (d := some 9) (v := .int .i64 n) (by kernel_rfl) (by kernel_rfl) (by kernel_rfl) (by kernel_rfl) (by kernel_rfl) (fun _ _ _ h => h) hHeld (fun z hSw => load_intT (x := .tmp 8) (b := T) (i := 5) (by kernel_rfl) (by kernel_rfl) ((hSw.cell (p := ⟨T, 5, none⟩) HL.out).trans HCl.out.2.2.2.2.2.1)) ?_)
  (refine Step.take (i := 7) (d := some 10) (v := .int .u64 N0) (by kernel_rfl) (by kernel_rfl) (by kernel_rfl) (by kernel_rfl) (by kernel_rfl) (fun _ _ _ h => h) hHeld (fun z hSw => conv_run (x := .tmp 9) w0 (by kernel_rfl) (by kernel_rfl)) ?_)
  (refine Step.take (i := 9) (d := some 12) (v := .pointer (some ⟨T, 6, none⟩)) (by kernel_rfl) (by kernel_rfl) (by kernel_rfl) (by kernel_rfl) (by kernel_rfl) (fun _ _ _ h => h) hHeld (fun z hSw => by kernel_rfl) ?_)
  (refine Step.take (i := 10) (d := some 13) (v := .int .i64 m) (by kernel_rfl) (by kernel_rfl) (by kernel_rfl) (by kernel_rfl) (by kernel_rfl) (fun _ _ _ h => h) hHeld (fun z hSw => load_intT (x := .tmp 12) (b := T) (i := 6) (by kernel_rfl) (by kernel_rfl) ((hSw.cell (p := ⟨T, 6, none⟩) HL.out).trans HCl.out.2.2.2.2.2.2.1)) ?_)
  (refine Step.take (i := 11) (d := some 14) (v := .int .u64 N1) (by kernel_rfl) (by kernel_rfl) (by kernel_rfl) (by kernel_rfl) (by kernel_rfl) (fun _ _ _ h => h) hHeld (fun z hSw => conv_run (x := .tmp 13) w1 (by kernel_rfl) (by kernel_rfl)) ?_)
  (refine Step.take (i := 13) (d := some 16) (v := .pointer (some ⟨T, 7, none⟩)) (by kernel_rfl) (by kernel_rfl) (by kernel_rfl) (by kernel_rfl) (by kernel_rfl) (fun _ _ _ h => h) hHeld (fun z hSw => by kernel_rfl) ?_)
  (refine Step.take (i := 14) (d := some 17) (v := .int .i64 k) (by kernel_rfl) (by kernel_rfl) (by kernel_rfl) (by kernel_rfl) (by kernel_rfl) (fun _ _ _ h => h) hHeld (fun z hSw => load_intT (x := .tmp 16) (b := T) (i := 7) (by kernel_rfl) (by kernel_rfl) ((hSw.cell (p := ⟨T, 7, none⟩) HL.out).trans HCl.out.2.2.2.2.2.2.2.1)) ?_)
  (refine Step.take (i := 15) (d := some 18) (v := .int .u64 N2) (by kernel_rfl) (by kernel_rfl) (by kernel_rfl) (by kernel_rfl) (by kernel_rfl) (fun _ _ _ h => h) hHeld (fun z hSw => conv_run (x := .tmp 17) w2 (by kernel_rfl) (by kernel_rfl)) ?_)
  (refine Step.take (i := 17) (d := some 20) (v := .pointer (some ⟨T, 8, none⟩)) (by kernel_rfl) (by kernel_rfl) (by kernel_rfl) (by kernel_rfl) (by kernel_rfl) (fun _ _ _ h => h) hHeld (fun z hSw => by kernel_rfl) ?_)
  (refine Step.take (i := 18) (d := some 21) (v := .slice sa sn sc) (by kernel_rfl) (by kernel_rfl) (by kernel_rfl) (by kernel_rfl) (by kernel_rfl) (fun _ _ _ h => h) hHeld (fun z hSw => load_terms (x := .tmp 20) (b := T) (i := 8) (by kernel_rfl) (by kernel_rfl) ((hSw.cell (p := ⟨T, 8, none⟩) HL.out).trans HCl.out.2.2.2.2.2.2.2.2)) ?_)
  (refine Step.call (i := 4) (d := some 7) 103 #[.agg #[.int .u64 A0, .int .u64 A1, .int .u64 A2, .int .u64 A3]] (by kernel_rfl) (by kernel_rfl) (by kernel_rfl) (by kernel_rfl) ?_; clear hHeld; refine (HV.out _).mono ?_; rintro _ z4 ⟨rfl, kb⟩; have q4 := q0.trans (kb.mono q0.size); clear kb; refine ⟨_, rfl, q4, fun hHeld => ?_⟩)
  (refine Step.call (i := 8) (d := some 11) 84 #[.int .u64 N0] (by kernel_rfl) (by kernel_rfl) (by kernel_rfl) (by kernel_rfl) ?_; clear hHeld; refine (HD0.out _).mono ?_; rintro _ z8 ⟨rfl, kb⟩; have q8 := q4.trans (kb.mono q4.size); clear kb; refine ⟨_, rfl, q8, fun hHeld => ?_⟩)
  (refine Step.call (i := 12) (d := some 15) 84 #[.int .u64 N1] (by kernel_rfl) (by kernel_rfl) (by kernel_rfl) (by kernel_rfl) ?_; clear hHeld; refine (HD1.out _).mono ?_; rintro _ z12 ⟨rfl, kb⟩; have q12 := q8.trans (kb.mono q8.size); clear kb; refine ⟨_, rfl, q12, fun hHeld => ?_⟩)
  (refine Step.call (i := 16) (d := some 19) 84 #[.int .u64 N2] (by kernel_rfl) (by kernel_rfl) (by kernel_rfl) (by kernel_rfl) ?_; clear hHeld; refine (HD2.out _).mono ?_; rintro _ z16 ⟨rfl, kb⟩; have q16 := q12.trans (kb.mono q12.size); clear kb; refine ⟨_, rfl, q16, fun hHeld => ?_⟩)
  (refine Step.call (i := 19) (d := some 22) 87 #[.slice sa sn sc] (by kernel_rfl) (by kernel_rfl) (by kernel_rfl) (by kernel_rfl) ?_; clear hHeld; refine (HS.out _ q16).mono ?_; rintro _ z19 ⟨rfl, kb⟩; have q19 := q16.trans (kb.mono q16.size); clear kb; refine ⟨_, rfl, q19, fun hHeld => ?_⟩)
  (refine Step.one (i := 20) (by kernel_rfl) ⟨some 23, .slice (some ⟨z19.heap.size, 0, none⟩) 6 6, z19.alloc (.cells #[.string p, .string PV, .string D0, .string D1, .string D2, .string Z] 9), .value (.slice (some ⟨z19.heap.size, 0, none⟩) 6 6), by kernel_rfl, by kernel_rfl, by kernel_rfl, .inl rfl, q19.alloc q19.size _, fun hHeld => ?_⟩)
  (refine Step.take (i := 21) (d := some 2) (v := .slice (some ⟨z19.heap.size, 0, none⟩) 6 6) (by kernel_rfl) (by kernel_rfl) (by kernel_rfl) (by kernel_rfl) (by kernel_rfl) (fun _ _ _ h => h) hHeld (fun z hSw => by kernel_rfl) ?_)
  refine wpAnyH_done (by kernel_rfl) ?_ _
  simp only [Act.put, List.setIfInBounds_toArray, List.set_cons_succ, List.set_cons_zero]
  have hz := heap_alloc_new z19 (.cells #[.string p, .string PV, .string D0, .string D1, .string D2, .string Z] 9)
  have hb := (q19.alloc q19.size (.cells #[.string p, .string PV, .string D0, .string D1, .string D2, .string Z] 9))
  generalize z19.alloc _ = zz at hz hb ⊢
  generalize z19.heap.size = g at hz ⊢
  clear hHeld q0 q4 q8 q12 q16 q19
  go_wp2
  go_ret
  exact ⟨⟨g, rfl, hz⟩, HB.out.trans (hb.mono HB.out.size)⟩
theorem refWords_any (x : Jb) (s : Value) (w : World) (hf : FairJ x) (hB : inB (cou x) (pri x) (tik x) = true) (hs : TRow w s (terms x)) :
    Calls Tryz.prog 61 #[valJ x s] w fun e w' => (∃ g, e = .returned (.slice (some ⟨g, 0, none⟩) 6 6) ∧ w'.heap[g]? = some (.cells (svals (wordsJ x)).toArray 9)) ∧ Below w.heap.size w w' := by
  obtain ⟨sa, sc, rfl, _, _⟩ := hs.slice
  obtain ⟨n0, n1, n2⟩ := nums_of hB
  have hl : ∀ j, numJ x j < 18446744073709551616 := fun j => by have := numJ_lt hB j; omega
  exact refWords9 (path x) (textV (dem x)) (dec (numJ x 0)) (dec (numJ x 1)) (dec (numJ x 2)) (textS (terms x)) (am (dem x) 0) (am (dem x) 1) (am (dem x) 2) (am (dem x) 3) (cou x) (pri x) (tik x) (numJ x 0) (numJ x 1) (numJ x 2) sa (terms x).length sc w
    (by rw [n0, IntKind.wrap_u64]; have := numJ_lt hB 0; omega) (by rw [n1, IntKind.wrap_u64]; have := numJ_lt hB 1; omega) (by rw [n2, IntKind.wrap_u64]; have := numJ_lt hB 2; omega)
    (Lib.hid fun W => refTextV_any (dem x) hf.dem W) (Lib.hid fun W => refDigits_any _ (hl 0) W) (Lib.hid fun W => refDigits_any _ (hl 1) W) (Lib.hid fun W => refDigits_any _ (hl 2) W)
    (Lib.hid fun W h => refTextS_any _ (terms x) W ((hs.below (grew w _)).below (by rw [World.size_alloc]; exact h)) hf.terms)
end Go.Proofs.YtbilkeadhflibaaGreatDoor.Job
