/- What the document's own Parse answers of any words (chapter 11); of memory that was there nothing turns. -/
import Derived.Test.YtbilkeadhflibaaGreatDoorYSpecF
import Derived.Test.YtbilkeadhflibaaGreatDoorSRefQ
namespace Go.Proofs.YtbilkeadhflibaaGreatDoor.Job
open Go.RowKit Go.Proofs.YtbilkeadhflibaaGreatDoor.Wire Go.Proofs.YtbilkeadhflibaaGreatDoor.Vec Go.Proofs.YtbilkeadhflibaaGreatDoor.Sel Go.Proofs.YtbilkeadhflibaaGreatDoor.Texts

section
variable {ops : Array Oper} {j : Nat} {ρ : Operand → Value} {x : Operand} {w : World} {b i : Nat}
theorem load_vec0 {n0 n1 n2 n3 : Int} (ho : Step.opAt ops j = some (.load 30 x)) (hx : ρ x = .pointer (some ⟨b, 0, none⟩))
    (h : w.cell? ⟨b, 0, none⟩ = some (.int .u64 n0) ∧ w.cell? ⟨b, 1, none⟩ = some (.int .u64 n1) ∧ w.cell? ⟨b, 2, none⟩ = some (.int .u64 n2) ∧ w.cell? ⟨b, 3, none⟩ = some (.int .u64 n3)) : Step.runAt Tryz.prog ops j ρ w = .ok (.value (.agg #[.int .u64 n0, .int .u64 n1, .int .u64 n2, .int .u64 n3])) w := by
  obtain ⟨h0, h1, h2, h3⟩ := h
  refine Step.run_of ho fun o hop => ?_
  unfold execOp
  rw [hop]
  simp only [hx]
  go_simp
theorem conv_back {n : Nat} (hN : IntKind.i64.wrap (n : Int) = (n : Int)) (ho : Step.opAt ops j = some (.convert 22 3 x)) (hx : ρ x = .int .u64 n) : Step.runAt Tryz.prog ops j ρ w = .ok (.value (.int .i64 n)) w := by
  refine Step.run_of ho fun o hop => ?_
  unfold execOp
  rw [hop]
  simp only [hx]
  go_simp
theorem at0_run {G O cap : Nat} (ho : Step.opAt ops j = some (.indexAddr 28 x (.const (.int .i64 0)))) (hx : ρ x = .slice (some ⟨G, O, none⟩) 6 cap) (hy : ρ (.const (.int .i64 0)) = .int .i64 0 := by kernel_rfl) : Step.runAt Tryz.prog ops j ρ w = .ok (.value (.pointer (some ⟨G, O, none⟩))) w := by
  refine Step.run_of ho fun o hop => ?_
  unfold execOp
  rw [hop]
  simp only [hx, hy]
  go_simp
end
def zeroR : Obj := box9R ⟨#[]⟩ 0 0 0 0 0 0 0 (.slice none 0 0)
theorem set9_boxR {w : World} {T : Nat} {p : ByteArray} {a0 a1 a2 a3 n m k : Int} {s : Value} (h : w.heap[T]? = some (box9R p a0 a1 a2 a3 n m k s)) (p' : ByteArray) (b0 b1 b2 b3 n' m' k' : Int) (s' : Value) :
    (set9 T p' b0 b1 b2 b3 n' m' k' s' w).heap[T]? = some (box9R p' b0 b1 b2 b3 n' m' k' s') := by
  unfold box9R at h
  unfold set9
  have h0 := heap_setCell_same w T 0 _ _ (.string p') h
  have h1 := heap_setCell_same _ T 1 _ _ (.int .u64 b0) h0
  have h2 := heap_setCell_same _ T 2 _ _ (.int .u64 b1) h1
  have h3 := heap_setCell_same _ T 3 _ _ (.int .u64 b2) h2
  have h4 := heap_setCell_same _ T 4 _ _ (.int .u64 b3) h3
  have h5 := heap_setCell_same _ T 5 _ _ (.int .i64 n') h4
  have h6 := heap_setCell_same _ T 6 _ _ (.int .i64 m') h5
  have h7 := heap_setCell_same _ T 7 _ _ (.int .i64 k') h6
  have h8 := heap_setCell_same _ T 8 _ _ s' h7
  rw [h8]
  unfold box9R
  simp only [List.setIfInBounds_toArray, List.set_cons_succ, List.set_cons_zero]
/-- A job stored where nothing was: no name is nothing. -/
theorem fresh_keptR {w : World} {v : Value} {ls : List Tm} {T : Nat} (h : TRow w v ls) (hr : rightS ls = true) (hT : w.heap[T]? = some (box9R ⟨#[]⟩ 0 0 0 0 0 0 0 (.slice none 0 0)))
    (p : ByteArray) (b0 b1 b2 b3 n' m' k' : Int) (sa' : Option Addr) (sn' sc' : Nat) : TRow (Job.set9 T p b0 b1 b2 b3 n' m' k' (.slice sa' sn' sc') w) v ls := by
  have ho : ∀ g, g ≠ T → (Job.set9 T p b0 b1 b2 b3 n' m' k' (.slice sa' sn' sc') w).heap[g]? = w.heap[g]? := fun g hg => set9_other hg _ _ _ _ _ _ _ _ _
  have hz : w.heap.size ≤ (Job.set9 T p b0 b1 b2 b3 n' m' k' (.slice sa' sn' sc') w).heap.size := by rw [set9_size]; exact Nat.le_refl _
  generalize Job.set9 T p b0 b1 b2 b3 n' m' k' (.slice sa' sn' sc') w = w' at ho hz ⊢
  refine trow_kept' h hz (fun t ht => ?_) (fun g o x hx hc => ?_) (fun g o b hc i => ?_)
  · obtain ⟨h1, _, h3, _⟩ := rightT_parts ((rightS_parts hr).2 t ht)
    exact ⟨right_full h1, fun x hx => right_full (h3 x hx)⟩
  · by_cases hg : g = T
    · rw [hg, cell_in hT] at hc
      rcases nine hc with ⟨_, e⟩ | e | e | e | e | e | e | e | e
      · injection e with e
        exact absurd e hx
      all_goals cases e
    · rw [cell_same (ho g hg)]
      exact hc
  · by_cases hg : g = T
    · rw [hg, cell_in hT] at hc
      rcases nine hc with ⟨_, e⟩ | e | e | e | e | e | e | e | e <;> cases e
    · exact cell_same (ho g hg) i

set_option maxHeartbeats 8000000 in
set_option maxRecDepth 100000 in
theorem refParseJ_six (G O cap : Nat) (w : World) (hG : G < w.heap.size) (wds : Nat → ByteArray) (HW : Hid (∀ i, i < 6 → w.cell? ⟨G, O + i, none⟩ = some (.string (wds i)))) (V0 V1 V2 V3 : Int) (a b c e f : Bool) (n m k : Nat) (ls : List Tm) (r : Int) (R : Option Jb) (X : Jb)
    (hX : Hid (∀ u, valJ X u = .agg #[.string (wds 0), .int .u64 V0, .int .u64 V1, .int .u64 V2, .int .u64 V3, .int .i64 n, .int .i64 m, .int .i64 k, u])) (hXt : Hid (terms X = ls)) (hrt : Hid (f = true → rightS ls = true))
    (HV : Hid (∀ W, Calls Tryz.prog 39 #[.string (wds 1)] W fun e w' => e = .returned (.tuple #[.agg #[.int .u64 V0, .int .u64 V1, .int .u64 V2, .int .u64 V3], .bool a]) ∧ Below W.heap.size W w'))
    (HN : Hid (∀ W, Calls Tryz.prog 40 #[.string (wds 2)] W fun e w' => e = .returned (.tuple #[.int .u64 n, .bool b]) ∧ Below W.heap.size W w'))
    (HM : Hid (∀ W, Calls Tryz.prog 40 #[.string (wds 3)] W fun e w' => e = .returned (.tuple #[.int .u64 m, .bool c]) ∧ Below W.heap.size W w'))
    (HK : Hid (∀ W, Calls Tryz.prog 40 #[.string (wds 4)] W fun e' w' => e' = .returned (.tuple #[.int .u64 k, .bool e]) ∧ Below W.heap.size W w'))
    (HS : Hid (∀ W, Calls Tryz.prog 41 #[.string (wds 5)] W fun e w' => (∃ u, e = .returned (.tuple #[u, .bool f]) ∧ TRow w' u ls) ∧ Below W.heap.size W w'))
    (HCk : Hid (f = true → n ≤ 8 → m ≤ 9 → k ≤ 100 → a = true → ∀ u W, TRow W u ls → Calls Tryz.prog 20 #[.agg #[.string (wds 0), .int .u64 V0, .int .u64 V1, .int .u64 V2, .int .u64 V3, .int .i64 n, .int .i64 m, .int .i64 k, u]] W fun e w' => e = .returned (.int .i64 r) ∧ Below W.heap.size W w'))
    (hbad : Hid ((a = false ∨ b = false ∨ c = false ∨ e = false ∨ f = false ∨ 8 < n ∨ 9 < m ∨ 100 < k) → R = none)) (hgood : Hid (a = true → b = true → c = true → e = true → f = true → n ≤ 8 → m ≤ 9 → k ≤ 100 → (r = 0 → R = some X) ∧ (r ≠ 0 → R = none))) :
    Calls Tryz.prog 16 #[.slice (some ⟨G, O, none⟩) 6 cap] w (TellsJP R w) := by
  unfold TellsJP zero9 val9
  have HGl0 := Lib.hid hG
  have c1 := HW.out 1 (by omega)
  go_enter Tryz.func16, Tryz.ntmps16
  go_upto_region 3 with fail
  have hx := heap_alloc_new w zeroR
  have b0 := grew w zeroR
  unfold zeroR box9R at hx b0
  generalize hw0 : w.alloc _ = w0 at hx b0 ⊢
  have HRs := Lib.hid hx
  have HB0 := Lib.hid b0
  have q1 := (b0.cell (p := ⟨G, O + 1, none⟩) hG).trans c1
  have HWc : Hid (∀ W, Below w0.heap.size w0 W → ∀ i, i < 6 → W.cell? ⟨G, O + i, none⟩ = some (.string (wds i))) := Lib.hid fun W h i hi => ((b0.trans (h.mono b0.size)).cell (p := ⟨G, O + i, none⟩) hG).trans (HW.out i hi)
  clear hw0 hx b0 c1
  go_wp2_with fail
  with_reducible refine (HV.out _).mono ?_
  rintro _ w1 ⟨rfl, k1⟩
  go_upto_region 4 with fail
  have hv := heap_alloc_new w1 (boxR4 V0 V1 V2 V3)
  have k2 := grows k1 (grew w1 (boxR4 V0 V1 V2 V3))
  obtain ⟨B, hBe⟩ : ∃ B, B = w1.heap.size := ⟨_, rfl⟩
  have hB0 : w0.heap.size ≤ B := by rw [hBe]; exact k1.size
  rw [← hBe] at hv ⊢
  unfold boxR4 at hv k2
  generalize w1.alloc _ = w2 at hv k2 ⊢
  have HVb := Lib.hid hv
  clear k1 hv hBe q1
  have q2 := HWc.out _ k2 2 (by omega)
  go_wp2_with fail
  with_reducible refine (HN.out _).mono ?_
  rintro _ w3 ⟨rfl, k3⟩
  have j3 := grows k2 k3
  have q3 := HWc.out _ j3 3 (by omega)
  clear q2
  go_wp2_with fail
  with_reducible refine (HM.out _).mono ?_
  rintro _ w4 ⟨rfl, k4⟩
  have j4 := grows j3 k4
  have q4 := HWc.out _ j4 4 (by omega)
  clear q3
  go_wp2_with fail
  with_reducible refine (HK.out _).mono ?_
  rintro _ w5 ⟨rfl, k5⟩
  have j5 := grows j4 k5
  have q5 := HWc.out _ j5 5 (by omega)
  clear q4
  go_wp2_with fail
  with_reducible refine (HS.out _).mono ?_
  rintro _ w6 ⟨⟨u, rfl, hu⟩, k6⟩
  obtain ⟨la, lc, rfl, _, _⟩ := hu.slice
  have j6 := grows j5 k6
  have hVb6 : w6.heap[B]? = some (boxR4 V0 V1 V2 V3) := ((grows (grows (grows k3 k4) k5) k6).block _ (Array.getElem?_eq_some_iff.1 HVb.out).1).trans HVb.out
  have HV6 := Lib.hid hVb6
  have HU6 := Lib.hid hu
  have HJ6 := Lib.hid j6
  clear q5 k2 k3 k4 k5 k6 j3 j4 j5 hVb6 hu HVb HV HN HM HK HS
  obtain ⟨lsz, hlsz⟩ : ∃ l, l = ls.length := ⟨_, rfl⟩
  rw [← hlsz] at HU6 ⊢
  clear hlsz
  have eight : a = false ∨ (a = true ∧ b = false) ∨ (a = true ∧ b = true ∧ c = false) ∨ (a = true ∧ b = true ∧ c = true ∧ e = false) ∨ (a = true ∧ b = true ∧ c = true ∧ e = true ∧ f = false) ∨ (a = true ∧ b = true ∧ c = true ∧ e = true ∧ f = true) := by
    cases a <;> cases b <;> cases c <;> cases e <;> cases f <;> simp
  rcases eight with rfl | eight
  · have hRn : R = none := hbad.out (by simp)
    subst hRn
    clear hbad hgood HCk hrt
    have hRz := (HJ6.out.block _ (Array.getElem?_eq_some_iff.1 HRs.out).1).trans HRs.out
    obtain ⟨⟨r0, r1, r2, r3, r4, r5, r6, r7, r8⟩, z0, z1, z2, z3, z4, z5, z6, z7, z8⟩ := cells9R hRz
    have HD := Lib.hid (set9_boxR hRz ⟨#[]⟩ 0 0 0 0 0 0 0 (.slice none 0 0))
    have HBz := Lib.hid (set9_below (T := w.heap.size) (p := ⟨#[]⟩) (a0 := 0) (a1 := 0) (a2 := 0) (a3 := 0) (n := 0) (m := 0) (k := 0) (s := .slice none 0 0) (HB0.out.trans (HJ6.out.mono HB0.out.size)) (Nat.le_refl _))
    clear hRz
    go_wp2
    obtain ⟨⟨d0, d1, d2, d3, d4, d5, d6, d7, d8⟩, _⟩ := cells9R HD.out
    have hB := HBz.out
    unfold set9 at d0 d1 d2 d3 d4 d5 d6 d7 d8 hB
    refine bodyPost_ret (v := .tuple #[.agg #[.string ⟨#[]⟩, .int .u64 0, .int .u64 0, .int .u64 0, .int .u64 0, .int .i64 0, .int .i64 0, .int .i64 0, .slice none 0 0], .bool false]) (by simp [results, Tryz.results16, go_sem, d0, d1, d2, d3, d4, d5, d6, d7, d8]) rfl ?_
    exact ⟨rfl, hB⟩
  rcases eight with ⟨rfl, rfl⟩ | eight
  · have hRn : R = none := hbad.out (by simp)
    subst hRn
    clear hbad hgood HCk hrt
    have hRz := (HJ6.out.block _ (Array.getElem?_eq_some_iff.1 HRs.out).1).trans HRs.out
    obtain ⟨⟨r0, r1, r2, r3, r4, r5, r6, r7, r8⟩, z0, z1, z2, z3, z4, z5, z6, z7, z8⟩ := cells9R hRz
    have HD := Lib.hid (set9_boxR hRz ⟨#[]⟩ 0 0 0 0 0 0 0 (.slice none 0 0))
    have HBz := Lib.hid (set9_below (T := w.heap.size) (p := ⟨#[]⟩) (a0 := 0) (a1 := 0) (a2 := 0) (a3 := 0) (n := 0) (m := 0) (k := 0) (s := .slice none 0 0) (HB0.out.trans (HJ6.out.mono HB0.out.size)) (Nat.le_refl _))
    clear hRz
    go_wp2
    obtain ⟨⟨d0, d1, d2, d3, d4, d5, d6, d7, d8⟩, _⟩ := cells9R HD.out
    have hB := HBz.out
    unfold set9 at d0 d1 d2 d3 d4 d5 d6 d7 d8 hB
    refine bodyPost_ret (v := .tuple #[.agg #[.string ⟨#[]⟩, .int .u64 0, .int .u64 0, .int .u64 0, .int .u64 0, .int .i64 0, .int .i64 0, .int .i64 0, .slice none 0 0], .bool false]) (by simp [results, Tryz.results16, go_sem, d0, d1, d2, d3, d4, d5, d6, d7, d8]) rfl ?_
    exact ⟨rfl, hB⟩
  rcases eight with ⟨rfl, rfl, rfl⟩ | eight
  · have hRn : R = none := hbad.out (by simp)
    subst hRn
    clear hbad hgood HCk hrt
    have hRz := (HJ6.out.block _ (Array.getElem?_eq_some_iff.1 HRs.out).1).trans HRs.out
    obtain ⟨⟨r0, r1, r2, r3, r4, r5, r6, r7, r8⟩, z0, z1, z2, z3, z4, z5, z6, z7, z8⟩ := cells9R hRz
    have HD := Lib.hid (set9_boxR hRz ⟨#[]⟩ 0 0 0 0 0 0 0 (.slice none 0 0))
    have HBz := Lib.hid (set9_below (T := w.heap.size) (p := ⟨#[]⟩) (a0 := 0) (a1 := 0) (a2 := 0) (a3 := 0) (n := 0) (m := 0) (k := 0) (s := .slice none 0 0) (HB0.out.trans (HJ6.out.mono HB0.out.size)) (Nat.le_refl _))
    clear hRz
    go_wp2
    obtain ⟨⟨d0, d1, d2, d3, d4, d5, d6, d7, d8⟩, _⟩ := cells9R HD.out
    have hB := HBz.out
    unfold set9 at d0 d1 d2 d3 d4 d5 d6 d7 d8 hB
    refine bodyPost_ret (v := .tuple #[.agg #[.string ⟨#[]⟩, .int .u64 0, .int .u64 0, .int .u64 0, .int .u64 0, .int .i64 0, .int .i64 0, .int .i64 0, .slice none 0 0], .bool false]) (by simp [results, Tryz.results16, go_sem, d0, d1, d2, d3, d4, d5, d6, d7, d8]) rfl ?_
    exact ⟨rfl, hB⟩
  rcases eight with ⟨rfl, rfl, rfl, rfl⟩ | eight
  · have hRn : R = none := hbad.out (by simp)
    subst hRn
    clear hbad hgood HCk hrt
    have hRz := (HJ6.out.block _ (Array.getElem?_eq_some_iff.1 HRs.out).1).trans HRs.out
    obtain ⟨⟨r0, r1, r2, r3, r4, r5, r6, r7, r8⟩, z0, z1, z2, z3, z4, z5, z6, z7, z8⟩ := cells9R hRz
    have HD := Lib.hid (set9_boxR hRz ⟨#[]⟩ 0 0 0 0 0 0 0 (.slice none 0 0))
    have HBz := Lib.hid (set9_below (T := w.heap.size) (p := ⟨#[]⟩) (a0 := 0) (a1 := 0) (a2 := 0) (a3 := 0) (n := 0) (m := 0) (k := 0) (s := .slice none 0 0) (HB0.out.trans (HJ6.out.mono HB0.out.size)) (Nat.le_refl _))
    clear hRz
    go_wp2
    obtain ⟨⟨d0, d1, d2, d3, d4, d5, d6, d7, d8⟩, _⟩ := cells9R HD.out
    have hB := HBz.out
    unfold set9 at d0 d1 d2 d3 d4 d5 d6 d7 d8 hB
    refine bodyPost_ret (v := .tuple #[.agg #[.string ⟨#[]⟩, .int .u64 0, .int .u64 0, .int .u64 0, .int .u64 0, .int .i64 0, .int .i64 0, .int .i64 0, .slice none 0 0], .bool false]) (by simp [results, Tryz.results16, go_sem, d0, d1, d2, d3, d4, d5, d6, d7, d8]) rfl ?_
    exact ⟨rfl, hB⟩
  rcases eight with ⟨rfl, rfl, rfl, rfl, rfl⟩ | eight
  · have hRn : R = none := hbad.out (by simp)
    subst hRn
    clear hbad hgood HCk hrt
    have hRz := (HJ6.out.block _ (Array.getElem?_eq_some_iff.1 HRs.out).1).trans HRs.out
    obtain ⟨⟨r0, r1, r2, r3, r4, r5, r6, r7, r8⟩, z0, z1, z2, z3, z4, z5, z6, z7, z8⟩ := cells9R hRz
    have HD := Lib.hid (set9_boxR hRz ⟨#[]⟩ 0 0 0 0 0 0 0 (.slice none 0 0))
    have HBz := Lib.hid (set9_below (T := w.heap.size) (p := ⟨#[]⟩) (a0 := 0) (a1 := 0) (a2 := 0) (a3 := 0) (n := 0) (m := 0) (k := 0) (s := .slice none 0 0) (HB0.out.trans (HJ6.out.mono HB0.out.size)) (Nat.le_refl _))
    clear hRz
    go_wp2
    obtain ⟨⟨d0, d1, d2, d3, d4, d5, d6, d7, d8⟩, _⟩ := cells9R HD.out
    have hB := HBz.out
    unfold set9 at d0 d1 d2 d3 d4 d5 d6 d7 d8 hB
    refine bodyPost_ret (v := .tuple #[.agg #[.string ⟨#[]⟩, .int .u64 0, .int .u64 0, .int .u64 0, .int .u64 0, .int .i64 0, .int .i64 0, .int .i64 0, .slice none 0 0], .bool false]) (by simp [results, Tryz.results16, go_sem, d0, d1, d2, d3, d4, d5, d6, d7, d8]) rfl ?_
    exact ⟨rfl, hB⟩
  obtain ⟨rfl, rfl, rfl, rfl, rfl⟩ := eight
  by_cases h8 : 8 < n
  · have h8z : (8 : Int) < (n : Int) := by omega
    have hRn : R = none := hbad.out (by simp [h8])
    subst hRn
    clear hbad hgood HCk hrt
    have hRz := (HJ6.out.block _ (Array.getElem?_eq_some_iff.1 HRs.out).1).trans HRs.out
    obtain ⟨⟨r0, r1, r2, r3, r4, r5, r6, r7, r8⟩, z0, z1, z2, z3, z4, z5, z6, z7, z8⟩ := cells9R hRz
    have HD := Lib.hid (set9_boxR hRz ⟨#[]⟩ 0 0 0 0 0 0 0 (.slice none 0 0))
    have HBz := Lib.hid (set9_below (T := w.heap.size) (p := ⟨#[]⟩) (a0 := 0) (a1 := 0) (a2 := 0) (a3 := 0) (n := 0) (m := 0) (k := 0) (s := .slice none 0 0) (HB0.out.trans (HJ6.out.mono HB0.out.size)) (Nat.le_refl _))
    clear hRz
    go_wp2
    obtain ⟨⟨d0, d1, d2, d3, d4, d5, d6, d7, d8⟩, _⟩ := cells9R HD.out
    have hB := HBz.out
    unfold set9 at d0 d1 d2 d3 d4 d5 d6 d7 d8 hB
    refine bodyPost_ret (v := .tuple #[.agg #[.string ⟨#[]⟩, .int .u64 0, .int .u64 0, .int .u64 0, .int .u64 0, .int .i64 0, .int .i64 0, .int .i64 0, .slice none 0 0], .bool false]) (by simp [results, Tryz.results16, go_sem, d0, d1, d2, d3, d4, d5, d6, d7, d8]) rfl ?_
    exact ⟨rfl, hB⟩
  · have h8z : ¬ (8 : Int) < (n : Int) := by omega
    by_cases h9 : 9 < m
    · have h9z : (9 : Int) < (m : Int) := by omega
      have hRn : R = none := hbad.out (by simp [h9])
      subst hRn
      clear hbad hgood HCk hrt
      have hRz := (HJ6.out.block _ (Array.getElem?_eq_some_iff.1 HRs.out).1).trans HRs.out
      obtain ⟨⟨r0, r1, r2, r3, r4, r5, r6, r7, r8⟩, z0, z1, z2, z3, z4, z5, z6, z7, z8⟩ := cells9R hRz
      have HD := Lib.hid (set9_boxR hRz ⟨#[]⟩ 0 0 0 0 0 0 0 (.slice none 0 0))
      have HBz := Lib.hid (set9_below (T := w.heap.size) (p := ⟨#[]⟩) (a0 := 0) (a1 := 0) (a2 := 0) (a3 := 0) (n := 0) (m := 0) (k := 0) (s := .slice none 0 0) (HB0.out.trans (HJ6.out.mono HB0.out.size)) (Nat.le_refl _))
      clear hRz
      go_wp2
      obtain ⟨⟨d0, d1, d2, d3, d4, d5, d6, d7, d8⟩, _⟩ := cells9R HD.out
      have hB := HBz.out
      unfold set9 at d0 d1 d2 d3 d4 d5 d6 d7 d8 hB
      refine bodyPost_ret (v := .tuple #[.agg #[.string ⟨#[]⟩, .int .u64 0, .int .u64 0, .int .u64 0, .int .u64 0, .int .i64 0, .int .i64 0, .int .i64 0, .slice none 0 0], .bool false]) (by simp [results, Tryz.results16, go_sem, d0, d1, d2, d3, d4, d5, d6, d7, d8]) rfl ?_
      exact ⟨rfl, hB⟩
    · have h9z : ¬ (9 : Int) < (m : Int) := by omega
      by_cases h100 : 100 < k
      · have h100z : (100 : Int) < (k : Int) := by omega
        have hRn : R = none := hbad.out (by simp [h100])
        subst hRn
        clear hbad hgood HCk hrt
        have hRz := (HJ6.out.block _ (Array.getElem?_eq_some_iff.1 HRs.out).1).trans HRs.out
        obtain ⟨⟨r0, r1, r2, r3, r4, r5, r6, r7, r8⟩, z0, z1, z2, z3, z4, z5, z6, z7, z8⟩ := cells9R hRz
        have HD := Lib.hid (set9_boxR hRz ⟨#[]⟩ 0 0 0 0 0 0 0 (.slice none 0 0))
        have HBz := Lib.hid (set9_below (T := w.heap.size) (p := ⟨#[]⟩) (a0 := 0) (a1 := 0) (a2 := 0) (a3 := 0) (n := 0) (m := 0) (k := 0) (s := .slice none 0 0) (HB0.out.trans (HJ6.out.mono HB0.out.size)) (Nat.le_refl _))
        clear hRz
        go_wp2
        obtain ⟨⟨d0, d1, d2, d3, d4, d5, d6, d7, d8⟩, _⟩ := cells9R HD.out
        have hB := HBz.out
        unfold set9 at d0 d1 d2 d3 d4 d5 d6 d7 d8 hB
        refine bodyPost_ret (v := .tuple #[.agg #[.string ⟨#[]⟩, .int .u64 0, .int .u64 0, .int .u64 0, .int .u64 0, .int .i64 0, .int .i64 0, .int .i64 0, .slice none 0 0], .bool false]) (by simp [results, Tryz.results16, go_sem, d0, d1, d2, d3, d4, d5, d6, d7, d8]) rfl ?_
        exact ⟨rfl, hB⟩
      · have h100z : ¬ (100 : Int) < (k : Int) := by omega
        have HG := Lib.hid (hgood.out rfl rfl rfl rfl rfl (by omega) (by omega) (by omega))
        have HCq := Lib.hid (HCk.out rfl (by omega) (by omega) (by omega) rfl)
        have HRt := Lib.hid (hrt.out rfl)
        have hnw : IntKind.i64.wrap (n : Int) = (n : Int) := by rw [IntKind.wrap_i64]; omega
        have hmw : IntKind.i64.wrap (m : Int) = (m : Int) := by rw [IntKind.wrap_i64]; omega
        have hkw : IntKind.i64.wrap (k : Int) = (k : Int) := by rw [IntKind.wrap_i64]; omega
        clear hbad hgood HCk hrt
        go_upto_region 10 with fail
        obtain ⟨p, hp⟩ : ∃ p, p = wds 0 := ⟨_, rfl⟩
        have HC0 : Hid (w6.cell? ⟨G, O, none⟩ = some (.string p)) := Lib.hid (by rw [hp]; exact HWc.out _ HJ6.out 0 (by omega))
        rw [← hp] at HCq hX
        clear hp
        have hGl6 : G < w6.heap.size := Nat.lt_of_lt_of_le HGl0.out (Nat.le_trans HB0.out.size HJ6.out.size)
        have HGl := Lib.hid hGl6
        have HBl := Lib.hid (Array.getElem?_eq_some_iff.1 HV6.out).1
        have HCv : Hid (w6.cell? ⟨B, 0, none⟩ = some (.int .u64 V0) ∧ w6.cell? ⟨B, 1, none⟩ = some (.int .u64 V1) ∧ w6.cell? ⟨B, 2, none⟩ = some (.int .u64 V2) ∧ w6.cell? ⟨B, 3, none⟩ = some (.int .u64 V3)) := Lib.hid ⟨cell_at HV6.out rfl, cell_at HV6.out rfl, cell_at HV6.out rfl, cell_at HV6.out rfl⟩
        have q0 : Below w6.heap.size w6 w6.drew := (Below.refl _ _).drew
        have g1 : Below w6.heap.size w6 (w6.drew.alloc zeroR) := q0.alloc q0.size _
        have g2 := Whole.row_below g1 (g := w6.drew.heap.size) (Nat.le_refl _) #[.string p, .int .u64 V0, .int .u64 V1, .int .u64 V2, .int .u64 V3, .int .i64 (n : Nat), .int .i64 (m : Nat), .int .i64 (k : Nat), .slice la lsz lc]
        refine wp_region_held_drew (S := fun z => Below w6.heap.size w6 z) (by kernel_rfl) q0 (fun hHeld => ?_)
        (refine Step.take (i := 0) (d := some 85) (v := .slice (some ⟨G, O, none⟩) 6 cap) (by kernel_rfl) (by kernel_rfl) (by kernel_rfl) (by kernel_rfl) (by kernel_rfl) (fun _ _ _ h => h) hHeld (fun z hSw => by kernel_rfl) ?_)
        (refine Step.take (i := 1) (d := some 86) (v := .pointer (some ⟨G, O, none⟩)) (by kernel_rfl) (by kernel_rfl) (by kernel_rfl) (by kernel_rfl) (by kernel_rfl) (fun _ _ _ h => h) hHeld (fun z hSw => at0_run (x := .tmp 85) (cap := cap) (by kernel_rfl) (by kernel_rfl)) ?_)
        (refine Step.take (i := 2) (d := some 87) (v := .string p) (by kernel_rfl) (by kernel_rfl) (by kernel_rfl) (by kernel_rfl) (by kernel_rfl) (fun _ _ _ h => h) hHeld (fun z hSw => load_str (x := .tmp 86) (b := G) (i := O) (by kernel_rfl) (by kernel_rfl) ((hSw.cell (p := ⟨G, O, none⟩) HGl.out).trans HC0.out)) ?_)
        (refine Step.take (i := 3) (d := some 88) (v := .agg #[.int .u64 V0, .int .u64 V1, .int .u64 V2, .int .u64 V3]) (by kernel_rfl) (by kernel_rfl) (by kernel_rfl) (by kernel_rfl) (by kernel_rfl) (fun _ _ _ h => h) hHeld (fun z hSw => load_vec0 (x := .tmp 4) (b := B) (by kernel_rfl) (by kernel_rfl) ⟨(hSw.cell (p := ⟨B, 0, none⟩) HBl.out).trans HCv.out.1, (hSw.cell (p := ⟨B, 1, none⟩) HBl.out).trans HCv.out.2.1, (hSw.cell (p := ⟨B, 2, none⟩) HBl.out).trans HCv.out.2.2.1, (hSw.cell (p := ⟨B, 3, none⟩) HBl.out).trans HCv.out.2.2.2⟩) ?_)
        (refine Step.take (i := 4) (d := some 89) (v := .int .u64 (n : Nat)) (by kernel_rfl) (by kernel_rfl) (by kernel_rfl) (by kernel_rfl) (by kernel_rfl) (fun _ _ _ h => h) hHeld (fun z hSw => by kernel_rfl) ?_)
        (refine Step.take (i := 5) (d := some 90) (v := .int .i64 (n : Nat)) (by kernel_rfl) (by kernel_rfl) (by kernel_rfl) (by kernel_rfl) (by kernel_rfl) (fun _ _ _ h => h) hHeld (fun z hSw => conv_back (x := .tmp 89) hnw (by kernel_rfl) (by kernel_rfl)) ?_)
        (refine Step.take (i := 6) (d := some 91) (v := .int .u64 (m : Nat)) (by kernel_rfl) (by kernel_rfl) (by kernel_rfl) (by kernel_rfl) (by kernel_rfl) (fun _ _ _ h => h) hHeld (fun z hSw => by kernel_rfl) ?_)
        (refine Step.take (i := 7) (d := some 92) (v := .int .i64 (m : Nat)) (by kernel_rfl) (by kernel_rfl) (by kernel_rfl) (by kernel_rfl) (by kernel_rfl) (fun _ _ _ h => h) hHeld (fun z hSw => conv_back (x := .tmp 91) hmw (by kernel_rfl) (by kernel_rfl)) ?_)
        (refine Step.take (i := 8) (d := some 93) (v := .int .u64 (k : Nat)) (by kernel_rfl) (by kernel_rfl) (by kernel_rfl) (by kernel_rfl) (by kernel_rfl) (fun _ _ _ h => h) hHeld (fun z hSw => by kernel_rfl) ?_)
        (refine Step.take (i := 9) (d := some 94) (v := .int .i64 (k : Nat)) (by kernel_rfl) (by kernel_rfl) (by kernel_rfl) (by kernel_rfl) (by kernel_rfl) (fun _ _ _ h => h) hHeld (fun z hSw => conv_back (x := .tmp 93) hkw (by kernel_rfl) (by kernel_rfl)) ?_)
        (refine Step.take (i := 10) (d := some 95) (v := .slice la lsz lc) (by kernel_rfl) (by kernel_rfl) (by kernel_rfl) (by kernel_rfl) (by kernel_rfl) (fun _ _ _ h => h) hHeld (fun z hSw => by kernel_rfl) ?_)
        (refine Step.take (i := 11) (d := some 96) (v := .agg #[.string p, .int .u64 V0, .int .u64 V1, .int .u64 V2, .int .u64 V3, .int .i64 (n : Nat), .int .i64 (m : Nat), .int .i64 (k : Nat), .slice la lsz lc]) (by kernel_rfl) (by kernel_rfl) (by kernel_rfl) (by kernel_rfl) (by kernel_rfl) (fun _ _ _ h => h) hHeld (fun z hSw => by kernel_rfl) ?_)
        (refine Step.one (i := 12) (by kernel_rfl) ⟨some 14, .pointer (some ⟨w6.drew.heap.size, 0, none⟩), w6.drew.alloc zeroR, .value (.pointer (some ⟨w6.drew.heap.size, 0, none⟩)), by kernel_rfl, by kernel_rfl, by kernel_rfl, .inl rfl, g1, fun hHeld => ?_⟩)
        (refine Step.one (i := 13) (by kernel_rfl) ⟨none, undef, (w6.drew.alloc zeroR).setRow w6.drew.heap.size #[.string p, .int .u64 V0, .int .u64 V1, .int .u64 V2, .int .u64 V3, .int .i64 (n : Nat), .int .i64 (m : Nat), .int .i64 (k : Nat), .slice la lsz lc], .skip, by kernel_rfl, by kernel_rfl, store_run (x := .tmp 14) (y := .tmp 96) (by kernel_rfl) (by kernel_rfl) (by kernel_rfl) (heap_alloc_new _ _) (by kernel_rfl) rfl (nine_ok p V0 V1 V2 V3 n m k _ rfl), .inr ⟨rfl, rfl⟩, g2, fun hHeld => ?_⟩)
        refine wpAnyH_done (by kernel_rfl) ?_ _
        simp only [Act.put, List.setIfInBounds_toArray, List.set_cons_succ, List.set_cons_zero]
        have hzx := setRow_heap _ _ _ #[.string p, .int .u64 V0, .int .u64 V1, .int .u64 V2, .int .u64 V3, .int .i64 (n : Nat), .int .i64 (m : Nat), .int .i64 (k : Nat), .slice la lsz lc] _ _ (heap_alloc_new w6.drew zeroR)
        generalize (w6.drew.alloc zeroR).setRow w6.drew.heap.size #[.string p, .int .u64 V0, .int .u64 V1, .int .u64 V2, .int .u64 V3, .int .i64 (n : Nat), .int .i64 (m : Nat), .int .i64 (k : Nat), .slice la lsz lc] = w7 at hzx g2 ⊢
        have hT2l : w6.heap.size ≤ w6.drew.heap.size := Nat.le_refl _
        generalize w6.drew.heap.size = T2 at hzx hT2l ⊢
        have hT2 : w7.heap[T2]? = some (box9R p V0 V1 V2 V3 n m k (.slice la lsz lc)) := hzx
        have HU7 := Lib.hid (HU6.out.below g2)
        have HJ7 := Lib.hid (grows HJ6.out g2)
        have HT2l := Lib.hid hT2l
        clear hzx g1 g2 q0 hHeld HU6 HC0 HCv HGl HBl hGl6 HWc HW HV6 hT2l HJ6
        obtain ⟨⟨c0, c1, c2, c3, c4, c5, c6, c7, c8⟩, _⟩ := cells9R hT2
        have HT2 := Lib.hid hT2
        clear hT2
        go_wp2_with fail
        with_reducible refine (HCq.out _ _ HU7.out).mono ?_
        rintro _ w8 ⟨rfl, k8⟩
        have HU8 := Lib.hid (HU7.out.below k8)
        have HJ8 := Lib.hid (grows HJ7.out k8)
        have hT8 := (k8.block _ (Array.getElem?_eq_some_iff.1 HT2.out).1).trans HT2.out
        have HT8 := Lib.hid hT8
        clear c0 c1 c2 c3 c4 c5 c6 c7 c8 k8 hT8 HU7 HJ7 HT2 HCq
        by_cases hr0 : r = 0
        · have hRs := HG.out.1 hr0
          subst hr0
          subst hRs
          have hXe : ∀ u, valJ X u = .agg #[.string p, .int .u64 V0, .int .u64 V1, .int .u64 V2, .int .u64 V3, .int .i64 n, .int .i64 m, .int .i64 k, u] := hX.out
          have HXe := Lib.hid hXe
          clear hXe HG
          have hRz := (HJ8.out.block _ (Array.getElem?_eq_some_iff.1 HRs.out).1).trans HRs.out
          obtain ⟨⟨r0, r1, r2, r3, r4, r5, r6, r7, r8⟩, z0, z1, z2, z3, z4, z5, z6, z7, z8⟩ := cells9R hRz
          obtain ⟨⟨c0, c1, c2, c3, c4, c5, c6, c7, c8⟩, _⟩ := cells9R HT8.out
          have HD := Lib.hid (set9_boxR hRz p V0 V1 V2 V3 n m k (.slice la lsz lc))
          have HBz := Lib.hid (set9_below (T := w.heap.size) (p := p) (a0 := V0) (a1 := V1) (a2 := V2) (a3 := V3) (n := n) (m := m) (k := k) (s := .slice la lsz lc) (HB0.out.trans (HJ8.out.mono HB0.out.size)) (Nat.le_refl _))
          have HTk := Lib.hid (fresh_keptR HU8.out HRt.out hRz p V0 V1 V2 V3 n m k la lsz lc)
          clear hRz
          go_wp2
          obtain ⟨⟨d0, d1, d2, d3, d4, d5, d6, d7, d8⟩, _⟩ := cells9R HD.out
          have hB := HBz.out
          have hTk := HTk.out
          unfold set9 at d0 d1 d2 d3 d4 d5 d6 d7 d8 hB hTk
          refine bodyPost_ret (v := .tuple #[.agg #[.string p, .int .u64 V0, .int .u64 V1, .int .u64 V2, .int .u64 V3, .int .i64 n, .int .i64 m, .int .i64 k, .slice la lsz lc], .bool true]) (by simp [results, Tryz.results16, go_sem, d0, d1, d2, d3, d4, d5, d6, d7, d8]) rfl ?_
          exact ⟨⟨_, by rw [HXe.out], by rw [hXt.out]; exact hTk⟩, hB⟩
        · have hRn := HG.out.2 hr0
          subst hRn
          have hne : (r != 0) = true := by simpa using hr0
          clear HG hr0
          have hRz := (HJ8.out.block _ (Array.getElem?_eq_some_iff.1 HRs.out).1).trans HRs.out
          obtain ⟨⟨r0, r1, r2, r3, r4, r5, r6, r7, r8⟩, z0, z1, z2, z3, z4, z5, z6, z7, z8⟩ := cells9R hRz
          have HD := Lib.hid (set9_boxR hRz ⟨#[]⟩ 0 0 0 0 0 0 0 (.slice none 0 0))
          have HBz := Lib.hid (set9_below (T := w.heap.size) (p := ⟨#[]⟩) (a0 := 0) (a1 := 0) (a2 := 0) (a3 := 0) (n := 0) (m := 0) (k := 0) (s := .slice none 0 0) (HB0.out.trans (HJ8.out.mono HB0.out.size)) (Nat.le_refl _))
          clear hRz
          go_wp2
          obtain ⟨⟨d0, d1, d2, d3, d4, d5, d6, d7, d8⟩, _⟩ := cells9R HD.out
          have hB := HBz.out
          unfold set9 at d0 d1 d2 d3 d4 d5 d6 d7 d8 hB
          refine bodyPost_ret (v := .tuple #[.agg #[.string ⟨#[]⟩, .int .u64 0, .int .u64 0, .int .u64 0, .int .u64 0, .int .i64 0, .int .i64 0, .int .i64 0, .slice none 0 0], .bool false]) (by simp [results, Tryz.results16, go_sem, d0, d1, d2, d3, d4, d5, d6, d7, d8]) rfl ?_
          exact ⟨rfl, hB⟩
set_option maxHeartbeats 1000000 in
set_option maxRecDepth 100000 in
theorem refParseJ_short (a : Option Addr) (sn cap : Nat) (h6 : sn ≠ 6) (w : World) : Calls Tryz.prog 16 #[.slice a sn cap] w (TellsJP none w) := by
  unfold TellsJP zero9 val9
  have hne : ((sn : Int) != 6) = true := by rw [bne_iff_ne]; omega
  have hx := heap_alloc_new w zeroR
  have b0 := grew w zeroR
  have HD := Lib.hid (set9_boxR hx ⟨#[]⟩ 0 0 0 0 0 0 0 (.slice none 0 0))
  have HBz := Lib.hid (set9_below (T := w.heap.size) (p := ⟨#[]⟩) (a0 := 0) (a1 := 0) (a2 := 0) (a3 := 0) (n := 0) (m := 0) (k := 0) (s := .slice none 0 0) b0 (Nat.le_refl _))
  obtain ⟨⟨r0, r1, r2, r3, r4, r5, r6, r7, r8⟩, z0, z1, z2, z3, z4, z5, z6, z7, z8⟩ := cells9R hx
  unfold zeroR box9R at r0 r1 r2 r3 r4 r5 r6 r7 r8 z0 z1 z2 z3 z4 z5 z6 z7 z8 HD HBz
  clear hx b0 h6
  go_enter Tryz.func16, Tryz.ntmps16
  go_upto_region 1 with fail
  generalize w.alloc _ = w1 at r0 r1 r2 r3 r4 r5 r6 r7 r8 z0 z1 z2 z3 z4 z5 z6 z7 z8 HD HBz ⊢
  go_wp2
  obtain ⟨⟨d0, d1, d2, d3, d4, d5, d6, d7, d8⟩, _⟩ := cells9R HD.out
  have hB := HBz.out
  unfold set9 at d0 d1 d2 d3 d4 d5 d6 d7 d8 hB
  refine bodyPost_ret (v := .tuple #[.agg #[.string ⟨#[]⟩, .int .u64 0, .int .u64 0, .int .u64 0, .int .u64 0, .int .i64 0, .int .i64 0, .int .i64 0, .slice none 0 0], .bool false]) (by simp [results, Tryz.results16, go_sem, d0, d1, d2, d3, d4, d5, d6, d7, d8]) rfl ?_
  exact ⟨rfl, hB⟩
def listS : Option (List Tm) → List Tm
  | none => []
  | some ls => ls
theorem flatS {r : Option (List Tm)} {w : World} {e : Ending} {w' : World} (h : TellsS r w e w') : (∃ u, e = .returned (.tuple #[u, .bool r.isSome]) ∧ TRow w' u (listS r)) ∧ Below w.heap.size w w' := by
  obtain ⟨h1, h2⟩ := h
  refine ⟨?_, h2⟩
  cases r with
  | none => exact ⟨_, h1, TRow.nil _⟩
  | some ls => obtain ⟨v, h3, h4⟩ := h1; exact ⟨v, h3, h4⟩
theorem flatN {r : Option Nat} {w : World} {e : Ending} {w' : World} (h : TellsN r w e w') : e = .returned (.tuple #[.int .u64 (r.getD 0 : Nat), .bool r.isSome]) ∧ Below w.heap.size w w' := by
  obtain ⟨h1, h2⟩ := h
  refine ⟨?_, h2⟩
  cases r with
  | none => exact h1
  | some u => exact h1
theorem flatA {r : Option V4} {w : World} {e : Ending} {w' : World} (h : TellsA r w e w') : e = .returned (.tuple #[vecV (r.getD (0, 0, 0, 0)), .bool r.isSome]) ∧ Below w.heap.size w w' := by
  obtain ⟨h1, h2⟩ := h
  refine ⟨?_, h2⟩
  cases r with
  | none => exact h1
  | some u => exact h1
theorem refParseJ_any (ws : List ByteArray) (v : Value) (w : World) (hv : SRow w v ws) (hws : ∀ x ∈ ws, x.size ≤ 1048576) : Calls Tryz.prog 16 #[v] w (TellsJP (parseJ ws) w) := by
  obtain ⟨va, vc, rfl, _, _⟩ := hv.slice
  by_cases h6 : ws.length = 6
  · obtain ⟨G, O, rfl, hG, hcell⟩ := hv.cells (k := 0) (by omega)
    rw [h6]
    have hz : ∀ i, (ws.getD i ⟨#[]⟩).size ≤ 1048576 := fun i => by
      rw [List.getD_eq_getElem?_getD]
      cases h : ws[i]? with
      | none => show (⟨#[]⟩ : ByteArray).size ≤ _; decide
      | some x => exact hws x (List.mem_of_getElem? h)
    have hP : parseJ ws = match vecP (ws.getD 1 ⟨#[]⟩) with
      | none => none
      | some v => if (good (numW ws) (okW ws) 0 && (good (numW ws) (okW ws) 1 && good (numW ws) (okW ws) 2)) = true then (match parseS (ws.getD 5 ⟨#[]⟩) with
        | none => none
        | some ls => if checkJ (ws.getD 0 ⟨#[]⟩, v, ((numW ws 0 : Int), (numW ws 1 : Int), (numW ws 2 : Int)), ls) = 0 then some (ws.getD 0 ⟨#[]⟩, v, ((numW ws 0 : Int), (numW ws 1 : Int), (numW ws 2 : Int)), ls) else none) else none := by
      unfold parseJ parseF
      rw [if_pos h6]
      cases vecP (ws.getD 1 ⟨#[]⟩) with
      | none => rfl
      | some v =>
        dsimp only
        by_cases hg : (good (numW ws) (okW ws) 0 && (good (numW ws) (okW ws) 1 && good (numW ws) (okW ws) 2)) = true
        · rw [if_pos hg, if_pos hg]
          cases parseS (ws.getD 5 ⟨#[]⟩) <;> rfl
        · rw [if_neg hg, if_neg hg]
    have hIn : ∀ x, parseJ ws = some x → (vecP (ws.getD 1 ⟨#[]⟩)).isSome = true ∧ okW ws 0 = true ∧ okW ws 1 = true ∧ okW ws 2 = true ∧ (parseS (ws.getD 5 ⟨#[]⟩)).isSome = true ∧ numW ws 0 ≤ 8 ∧ numW ws 1 ≤ 9 ∧ numW ws 2 ≤ 100 := by
      intro x hx
      rw [hP] at hx
      cases hv : vecP (ws.getD 1 ⟨#[]⟩) with
      | none => rw [hv] at hx; cases hx
      | some v =>
        rw [hv] at hx
        dsimp only at hx
        by_cases hg : (good (numW ws) (okW ws) 0 && (good (numW ws) (okW ws) 1 && good (numW ws) (okW ws) 2)) = true
        · rw [if_pos hg] at hx
          cases hs : parseS (ws.getD 5 ⟨#[]⟩) with
          | none => rw [hs] at hx; cases hx
          | some ls =>
            rw [hs] at hx
            dsimp only at hx
            by_cases hc : checkJ (ws.getD 0 ⟨#[]⟩, v, ((numW ws 0 : Int), (numW ws 1 : Int), (numW ws 2 : Int)), ls) = 0
            · have hb : inB (numW ws 0 : Int) (numW ws 1 : Int) (numW ws 2 : Int) = true := (checkJ_ok.1 hc).2.1
              have hb := inB_of hb
              unfold good at hg
              simp only [Bool.and_eq_true, decide_eq_true_eq] at hg
              exact ⟨rfl, hg.1.1, hg.2.1.1, hg.2.2.1, rfl, by omega, by omega, by omega⟩
            · rw [if_neg hc] at hx
              cases hx
        · rw [if_neg hg] at hx
          cases hx
    have hN : ∀ j, numW ws j = (numL (ws.getD (2 + j) ⟨#[]⟩)).getD 0 := fun j => rfl
    obtain ⟨X, hXd⟩ : ∃ X : Jb, X = (ws.getD 0 ⟨#[]⟩, (vecP (ws.getD 1 ⟨#[]⟩)).getD (0, 0, 0, 0), ((numW ws 0 : Int), (numW ws 1 : Int), (numW ws 2 : Int)), listS (parseS (ws.getD 5 ⟨#[]⟩))) := ⟨_, rfl⟩
    have hfX : (parseS (ws.getD 5 ⟨#[]⟩)).isSome = true → (vecP (ws.getD 1 ⟨#[]⟩)).isSome = true → FairJ X := fun h1 h2 => by
      obtain ⟨ls, hls⟩ := Option.isSome_iff_exists.1 h1
      obtain ⟨v, hv⟩ := Option.isSome_iff_exists.1 h2
      rw [hXd, hls, hv]
      exact ⟨by show (ws.getD 0 ⟨#[]⟩).size ≤ _; have := hz 0; omega, (vecP_some hv).1, fair_right (parseS_right hls)⟩
    refine refParseJ_six G O vc w hG (fun i => ws.getD i ⟨#[]⟩) (Lib.hid fun i hi => hcell i _ (by rw [List.getD_eq_getElem?_getD, List.getElem?_eq_getElem (by omega)]; rfl)) (am ((vecP (ws.getD 1 ⟨#[]⟩)).getD (0, 0, 0, 0)) 0) (am ((vecP (ws.getD 1 ⟨#[]⟩)).getD (0, 0, 0, 0)) 1) (am ((vecP (ws.getD 1 ⟨#[]⟩)).getD (0, 0, 0, 0)) 2) (am ((vecP (ws.getD 1 ⟨#[]⟩)).getD (0, 0, 0, 0)) 3)
      (vecP (ws.getD 1 ⟨#[]⟩)).isSome (numL (ws.getD 2 ⟨#[]⟩)).isSome (numL (ws.getD 3 ⟨#[]⟩)).isSome (numL (ws.getD 4 ⟨#[]⟩)).isSome (parseS (ws.getD 5 ⟨#[]⟩)).isSome (numW ws 0) (numW ws 1) (numW ws 2) (listS (parseS (ws.getD 5 ⟨#[]⟩))) (checkJ X) (parseJ ws) X
      (Lib.hid fun u => by rw [hXd]; rfl) (Lib.hid (by rw [hXd]; rfl)) (Lib.hid fun h => ?_) (Lib.hid fun W => (refParseV_any _ (by have := hz 1; omega) W).mono fun e w' h => flatA h) (Lib.hid fun W => (refNumber_any _ W).mono fun e w' h => flatN h) (Lib.hid fun W => (refNumber_any _ W).mono fun e w' h => flatN h) (Lib.hid fun W => (refNumber_any _ W).mono fun e w' h => flatN h)
      (Lib.hid fun W => (refParseS_any _ (hz 5) W).mono fun e w' h => flatS h) (Lib.hid fun h1 _ _ _ h2 u W hu => ?_) (Lib.hid fun hb => ?_) (Lib.hid fun h1 h2 h3 h4 h5 h7 h8 h9 => ?_)
    · obtain ⟨ls, hls⟩ := Option.isSome_iff_exists.1 h
      rw [hls]
      exact parseS_right hls
    · have := refCheck_any X u W (hfX h1 h2) (by rw [hXd]; exact hu)
      rw [hXd] at this ⊢
      exact this
    · cases hp : parseJ ws with
      | none => rfl
      | some x =>
        exfalso
        obtain ⟨g1, g2, g3, g4, g5, g6, g7, g8⟩ := hIn x hp
        have g2' : (numL (ws.getD 2 ⟨#[]⟩)).isSome = true := g2
        have g3' : (numL (ws.getD 3 ⟨#[]⟩)).isSome = true := g3
        have g4' : (numL (ws.getD 4 ⟨#[]⟩)).isSome = true := g4
        rw [g1, g2', g3', g4', g5] at hb
        rcases hb with h | h | h | h | h | h | h | h
        · cases h
        · cases h
        · cases h
        · cases h
        · cases h
        · omega
        · omega
        · omega
    · obtain ⟨v, hv⟩ := Option.isSome_iff_exists.1 h1
      obtain ⟨ls, hls⟩ := Option.isSome_iff_exists.1 h5
      have k0 : okW ws 0 = true := h2
      have k1 : okW ws 1 = true := h3
      have k2 : okW ws 2 = true := h4
      have hg : (good (numW ws) (okW ws) 0 && (good (numW ws) (okW ws) 1 && good (numW ws) (okW ws) 2)) = true := by
        unfold good
        simp only [Bool.and_eq_true, decide_eq_true_eq]
        exact ⟨⟨k0, by omega⟩, ⟨k1, by omega⟩, ⟨k2, by omega⟩⟩
      rw [hv, hls] at hXd
      rw [hP, hv]
      dsimp only
      rw [if_pos hg, hls]
      dsimp only
      subst hXd
      refine ⟨fun hr => if_pos hr, fun hr => if_neg hr⟩
  · have hn : parseJ ws = none := by
      unfold parseJ parseF
      rw [if_neg h6]
    rw [hn]
    exact refParseJ_short va ws.length vc h6 w
end Go.Proofs.YtbilkeadhflibaaGreatDoor.Job
