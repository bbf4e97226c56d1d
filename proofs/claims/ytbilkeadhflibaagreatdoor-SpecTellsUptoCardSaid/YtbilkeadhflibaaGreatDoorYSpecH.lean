/- What the document's own Get answers of any bytes (chapter 11); of memory that was there nothing turns. -/
import Derived.Test.YtbilkeadhflibaaGreatDoorYSpecG
import Derived.Test.YtbilkeadhflibaaGreatDoorSRefG
namespace Go.Proofs.YtbilkeadhflibaaGreatDoor.Job
open Go.RowKit Go.Proofs.YtbilkeadhflibaaGreatDoor.Wire Go.Proofs.YtbilkeadhflibaaGreatDoor.Vec Go.Proofs.YtbilkeadhflibaaGreatDoor.Sel Go.Proofs.YtbilkeadhflibaaGreatDoor.Texts

set_option maxHeartbeats 8000000 in
set_option maxRecDepth 100000 in
theorem refGetJ_run (s : ByteArray) (at0 : Int) (w : World) (p : ByteArray) (A B C D E Q : Int) (V0 V1 V2 V3 : Int) (tk a b c e f : Bool) (n m k : Nat) (ls : List Tm) (r : Int) (R : Option (Jb × Int)) (X : Jb)
    (hX : Hid (∀ u, valJ X u = .agg #[.string p, .int .u64 V0, .int .u64 V1, .int .u64 V2, .int .u64 V3, .int .i64 n, .int .i64 m, .int .i64 k, u])) (hXt : Hid (terms X = ls)) (hrt : Hid (f = true → rightS ls = true))
    (HT : Hid (∀ W, Calls Tryz.prog 34 #[.string s, .int .i64 at0, .int .i64 98] W fun e w' => e = .returned (.tuple #[.string p, .int .i64 A, .bool tk]) ∧ Below W.heap.size W w'))
    (HV : Hid (tk = true → ∀ W, Calls Tryz.prog 35 #[.string s, .int .i64 A] W fun e w' => e = .returned (.tuple #[.agg #[.int .u64 V0, .int .u64 V1, .int .u64 V2, .int .u64 V3], .int .i64 B, .bool a]) ∧ Below W.heap.size W w'))
    (HN : Hid (tk = true → a = true → ∀ W, Calls Tryz.prog 36 #[.string s, .int .i64 B] W fun e w' => e = .returned (.tuple #[.int .u64 n, .int .i64 C, .bool b]) ∧ Below W.heap.size W w'))
    (HM : Hid (tk = true → a = true → ∀ W, Calls Tryz.prog 36 #[.string s, .int .i64 C] W fun e w' => e = .returned (.tuple #[.int .u64 m, .int .i64 D, .bool c]) ∧ Below W.heap.size W w'))
    (HK : Hid (tk = true → a = true → ∀ W, Calls Tryz.prog 36 #[.string s, .int .i64 D] W fun e' w' => e' = .returned (.tuple #[.int .u64 k, .int .i64 E, .bool e]) ∧ Below W.heap.size W w'))
    (HS : Hid (tk = true → a = true → ∀ W, Calls Tryz.prog 37 #[.string s, .int .i64 E] W fun e w' => (∃ u, e = .returned (.tuple #[u, .int .i64 Q, .bool f]) ∧ TRow w' u ls) ∧ Below W.heap.size W w'))
    (HCk : Hid (f = true → n ≤ 8 → m ≤ 9 → k ≤ 100 → a = true → tk = true → ∀ u W, TRow W u ls → Calls Tryz.prog 20 #[.agg #[.string p, .int .u64 V0, .int .u64 V1, .int .u64 V2, .int .u64 V3, .int .i64 n, .int .i64 m, .int .i64 k, u]] W fun e w' => e = .returned (.int .i64 r) ∧ Below W.heap.size W w'))
    (hbad : Hid ((tk = false ∨ a = false ∨ b = false ∨ c = false ∨ e = false ∨ f = false ∨ 8 < n ∨ 9 < m ∨ 100 < k) → R = none)) (hgood : Hid (tk = true → a = true → b = true → c = true → e = true → f = true → n ≤ 8 → m ≤ 9 → k ≤ 100 → (r = 0 → R = some (X, Q)) ∧ (r ≠ 0 → R = none))) :
    Calls Tryz.prog 14 #[.string s, .int .i64 at0] w (TellsJG R w) := by
  unfold TellsJG zero9 val9
  go_enter Tryz.func14, Tryz.ntmps14
  go_upto_region 1 with fail
  have hx := heap_alloc_new w zeroR
  have b0 := grew w zeroR
  unfold zeroR box9R at hx b0
  generalize hw0 : w.alloc _ = w0 at hx b0 ⊢
  have HRs := Lib.hid hx
  have HB0 := Lib.hid b0
  clear hw0 hx b0
  go_wp2_with fail
  with_reducible refine (HT.out _).mono ?_
  rintro _ w1 ⟨rfl, k1⟩
  have HJ1 := Lib.hid k1
  clear HT
  rcases Bool.eq_false_or_eq_true tk with rfl | rfl
  · skip
    go_wp2_with fail
    with_reducible refine (HV.out (by trivial) _).mono ?_
    rintro _ w2 ⟨rfl, k2⟩
    go_upto_region 5 with fail
    have hv := heap_alloc_new w2 (boxR4 V0 V1 V2 V3)
    have k3 := grows (grows HJ1.out k2) (grew w2 (boxR4 V0 V1 V2 V3))
    obtain ⟨O, hBe⟩ : ∃ O, O = w2.heap.size := ⟨_, rfl⟩
    rw [← hBe] at hv ⊢
    unfold boxR4 at hv k3
    generalize w2.alloc _ = w3 at hv k3 ⊢
    have HVb := Lib.hid hv
    have HJ3 := Lib.hid k3
    clear k1 k2 hv hBe k3 HJ1 HV
    rcases Bool.eq_false_or_eq_true a with rfl | rfl
    · skip
      go_wp2_with fail
      with_reducible refine (HN.out (by trivial) (by trivial) _).mono ?_
      rintro _ w4 ⟨rfl, k4⟩
      have HJ4 := Lib.hid (grows HJ3.out k4)
      have HV4 := Lib.hid ((k4.block _ (Array.getElem?_eq_some_iff.1 HVb.out).1).trans HVb.out)
      clear k4 HJ3 HVb
      go_wp2_with fail
      with_reducible refine (HM.out (by trivial) (by trivial) _).mono ?_
      rintro _ w5 ⟨rfl, k5⟩
      have HJ5 := Lib.hid (grows HJ4.out k5)
      have HV5 := Lib.hid ((k5.block _ (Array.getElem?_eq_some_iff.1 HV4.out).1).trans HV4.out)
      clear k5 HJ4 HV4
      go_wp2_with fail
      with_reducible refine (HK.out (by trivial) (by trivial) _).mono ?_
      rintro _ w6 ⟨rfl, k6⟩
      have HJ6 := Lib.hid (grows HJ5.out k6)
      have HV6 := Lib.hid ((k6.block _ (Array.getElem?_eq_some_iff.1 HV5.out).1).trans HV5.out)
      clear k6 HJ5 HV5
      go_wp2_with fail
      with_reducible refine (HS.out (by trivial) (by trivial) _).mono ?_
      rintro _ w7 ⟨⟨u, rfl, hu⟩, k7⟩
      obtain ⟨la, lc, rfl, _, _⟩ := hu.slice
      have HJ7 := Lib.hid (grows HJ6.out k7)
      have HV7 := Lib.hid ((k7.block _ (Array.getElem?_eq_some_iff.1 HV6.out).1).trans HV6.out)
      have HU7 := Lib.hid hu
      clear k7 HJ6 HV6 hu HN HM HK HS
      obtain ⟨lsz, hlsz⟩ : ∃ l, l = ls.length := ⟨_, rfl⟩
      rw [← hlsz] at HU7 ⊢
      clear hlsz
      have eight : b = false ∨ (b = true ∧ c = false) ∨ (b = true ∧ c = true ∧ e = false) ∨ (b = true ∧ c = true ∧ e = true ∧ f = false) ∨ (b = true ∧ c = true ∧ e = true ∧ f = true) := by
        cases b <;> cases c <;> cases e <;> cases f <;> simp
      rcases eight with rfl | eight
      · have hRn : R = none := hbad.out (by simp)
        subst hRn
        clear hbad hgood HCk hrt
        have hRz := (HJ7.out.block _ (Array.getElem?_eq_some_iff.1 HRs.out).1).trans HRs.out
        obtain ⟨⟨r0, r1, r2, r3, r4, r5, r6, r7, r8⟩, z0, z1, z2, z3, z4, z5, z6, z7, z8⟩ := cells9R hRz
        have HD := Lib.hid (set9_boxR hRz ⟨#[]⟩ 0 0 0 0 0 0 0 (.slice none 0 0))
        have HBz := Lib.hid (set9_below (T := w.heap.size) (p := ⟨#[]⟩) (a0 := 0) (a1 := 0) (a2 := 0) (a3 := 0) (n := 0) (m := 0) (k := 0) (s := .slice none 0 0) (HB0.out.trans (HJ7.out.mono HB0.out.size)) (Nat.le_refl _))
        clear hRz
        go_wp2
        obtain ⟨⟨d0, d1, d2, d3, d4, d5, d6, d7, d8⟩, _⟩ := cells9R HD.out
        have hB := HBz.out
        unfold set9 at d0 d1 d2 d3 d4 d5 d6 d7 d8 hB
        refine bodyPost_ret (v := .tuple #[.agg #[.string ⟨#[]⟩, .int .u64 0, .int .u64 0, .int .u64 0, .int .u64 0, .int .i64 0, .int .i64 0, .int .i64 0, .slice none 0 0], .int .i64 0, .bool false]) (by simp [results, Tryz.results14, go_sem, d0, d1, d2, d3, d4, d5, d6, d7, d8]) rfl ?_
        exact ⟨rfl, hB⟩
      rcases eight with ⟨rfl, rfl⟩ | eight
      · have hRn : R = none := hbad.out (by simp)
        subst hRn
        clear hbad hgood HCk hrt
        have hRz := (HJ7.out.block _ (Array.getElem?_eq_some_iff.1 HRs.out).1).trans HRs.out
        obtain ⟨⟨r0, r1, r2, r3, r4, r5, r6, r7, r8⟩, z0, z1, z2, z3, z4, z5, z6, z7, z8⟩ := cells9R hRz
        have HD := Lib.hid (set9_boxR hRz ⟨#[]⟩ 0 0 0 0 0 0 0 (.slice none 0 0))
        have HBz := Lib.hid (set9_below (T := w.heap.size) (p := ⟨#[]⟩) (a0 := 0) (a1 := 0) (a2 := 0) (a3 := 0) (n := 0) (m := 0) (k := 0) (s := .slice none 0 0) (HB0.out.trans (HJ7.out.mono HB0.out.size)) (Nat.le_refl _))
        clear hRz
        go_wp2
        obtain ⟨⟨d0, d1, d2, d3, d4, d5, d6, d7, d8⟩, _⟩ := cells9R HD.out
        have hB := HBz.out
        unfold set9 at d0 d1 d2 d3 d4 d5 d6 d7 d8 hB
        refine bodyPost_ret (v := .tuple #[.agg #[.string ⟨#[]⟩, .int .u64 0, .int .u64 0, .int .u64 0, .int .u64 0, .int .i64 0, .int .i64 0, .int .i64 0, .slice none 0 0], .int .i64 0, .bool false]) (by simp [results, Tryz.results14, go_sem, d0, d1, d2, d3, d4, d5, d6, d7, d8]) rfl ?_
        exact ⟨rfl, hB⟩
      rcases eight with ⟨rfl, rfl, rfl⟩ | eight
      · have hRn : R = none := hbad.out (by simp)
        subst hRn
        clear hbad hgood HCk hrt
        have hRz := (HJ7.out.block _ (Array.getElem?_eq_some_iff.1 HRs.out).1).trans HRs.out
        obtain ⟨⟨r0, r1, r2, r3, r4, r5, r6, r7, r8⟩, z0, z1, z2, z3, z4, z5, z6, z7, z8⟩ := cells9R hRz
        have HD := Lib.hid (set9_boxR hRz ⟨#[]⟩ 0 0 0 0 0 0 0 (.slice none 0 0))
        have HBz := Lib.hid (set9_below (T := w.heap.size) (p := ⟨#[]⟩) (a0 := 0) (a1 := 0) (a2 := 0) (a3 := 0) (n := 0) (m := 0) (k := 0) (s := .slice none 0 0) (HB0.out.trans (HJ7.out.mono HB0.out.size)) (Nat.le_refl _))
        clear hRz
        go_wp2
        obtain ⟨⟨d0, d1, d2, d3, d4, d5, d6, d7, d8⟩, _⟩ := cells9R HD.out
        have hB := HBz.out
        unfold set9 at d0 d1 d2 d3 d4 d5 d6 d7 d8 hB
        refine bodyPost_ret (v := .tuple #[.agg #[.string ⟨#[]⟩, .int .u64 0, .int .u64 0, .int .u64 0, .int .u64 0, .int .i64 0, .int .i64 0, .int .i64 0, .slice none 0 0], .int .i64 0, .bool false]) (by simp [results, Tryz.results14, go_sem, d0, d1, d2, d3, d4, d5, d6, d7, d8]) rfl ?_
        exact ⟨rfl, hB⟩
      rcases eight with ⟨rfl, rfl, rfl, rfl⟩ | eight
      · have hRn : R = none := hbad.out (by simp)
        subst hRn
        clear hbad hgood HCk hrt
        have hRz := (HJ7.out.block _ (Array.getElem?_eq_some_iff.1 HRs.out).1).trans HRs.out
        obtain ⟨⟨r0, r1, r2, r3, r4, r5, r6, r7, r8⟩, z0, z1, z2, z3, z4, z5, z6, z7, z8⟩ := cells9R hRz
        have HD := Lib.hid (set9_boxR hRz ⟨#[]⟩ 0 0 0 0 0 0 0 (.slice none 0 0))
        have HBz := Lib.hid (set9_below (T := w.heap.size) (p := ⟨#[]⟩) (a0 := 0) (a1 := 0) (a2 := 0) (a3 := 0) (n := 0) (m := 0) (k := 0) (s := .slice none 0 0) (HB0.out.trans (HJ7.out.mono HB0.out.size)) (Nat.le_refl _))
        clear hRz
        go_wp2
        obtain ⟨⟨d0, d1, d2, d3, d4, d5, d6, d7, d8⟩, _⟩ := cells9R HD.out
        have hB := HBz.out
        unfold set9 at d0 d1 d2 d3 d4 d5 d6 d7 d8 hB
        refine bodyPost_ret (v := .tuple #[.agg #[.string ⟨#[]⟩, .int .u64 0, .int .u64 0, .int .u64 0, .int .u64 0, .int .i64 0, .int .i64 0, .int .i64 0, .slice none 0 0], .int .i64 0, .bool false]) (by simp [results, Tryz.results14, go_sem, d0, d1, d2, d3, d4, d5, d6, d7, d8]) rfl ?_
        exact ⟨rfl, hB⟩
      obtain ⟨rfl, rfl, rfl, rfl⟩ := eight
      by_cases h8 : 8 < n
      · have h8z : (8 : Int) < (n : Int) := by omega
        have hRn : R = none := hbad.out (by simp [h8])
        subst hRn
        clear hbad hgood HCk hrt
        have hRz := (HJ7.out.block _ (Array.getElem?_eq_some_iff.1 HRs.out).1).trans HRs.out
        obtain ⟨⟨r0, r1, r2, r3, r4, r5, r6, r7, r8⟩, z0, z1, z2, z3, z4, z5, z6, z7, z8⟩ := cells9R hRz
        have HD := Lib.hid (set9_boxR hRz ⟨#[]⟩ 0 0 0 0 0 0 0 (.slice none 0 0))
        have HBz := Lib.hid (set9_below (T := w.heap.size) (p := ⟨#[]⟩) (a0 := 0) (a1 := 0) (a2 := 0) (a3 := 0) (n := 0) (m := 0) (k := 0) (s := .slice none 0 0) (HB0.out.trans (HJ7.out.mono HB0.out.size)) (Nat.le_refl _))
        clear hRz
        go_wp2
        obtain ⟨⟨d0, d1, d2, d3, d4, d5, d6, d7, d8⟩, _⟩ := cells9R HD.out
        have hB := HBz.out
        unfold set9 at d0 d1 d2 d3 d4 d5 d6 d7 d8 hB
        refine bodyPost_ret (v := .tuple #[.agg #[.string ⟨#[]⟩, .int .u64 0, .int .u64 0, .int .u64 0, .int .u64 0, .int .i64 0, .int .i64 0, .int .i64 0, .slice none 0 0], .int .i64 0, .bool false]) (by simp [results, Tryz.results14, go_sem, d0, d1, d2, d3, d4, d5, d6, d7, d8]) rfl ?_
        exact ⟨rfl, hB⟩
      · have h8z : ¬ (8 : Int) < (n : Int) := by omega
        by_cases h9 : 9 < m
        · have h9z : (9 : Int) < (m : Int) := by omega
          have hRn : R = none := hbad.out (by simp [h9])
          subst hRn
          clear hbad hgood HCk hrt
          have hRz := (HJ7.out.block _ (Array.getElem?_eq_some_iff.1 HRs.out).1).trans HRs.out
          obtain ⟨⟨r0, r1, r2, r3, r4, r5, r6, r7, r8⟩, z0, z1, z2, z3, z4, z5, z6, z7, z8⟩ := cells9R hRz
          have HD := Lib.hid (set9_boxR hRz ⟨#[]⟩ 0 0 0 0 0 0 0 (.slice none 0 0))
          have HBz := Lib.hid (set9_below (T := w.heap.size) (p := ⟨#[]⟩) (a0 := 0) (a1 := 0) (a2 := 0) (a3 := 0) (n := 0) (m := 0) (k := 0) (s := .slice none 0 0) (HB0.out.trans (HJ7.out.mono HB0.out.size)) (Nat.le_refl _))
          clear hRz
          go_wp2
          obtain ⟨⟨d0, d1, d2, d3, d4, d5, d6, d7, d8⟩, _⟩ := cells9R HD.out
          have hB := HBz.out
          unfold set9 at d0 d1 d2 d3 d4 d5 d6 d7 d8 hB
          refine bodyPost_ret (v := .tuple #[.agg #[.string ⟨#[]⟩, .int .u64 0, .int .u64 0, .int .u64 0, .int .u64 0, .int .i64 0, .int .i64 0, .int .i64 0, .slice none 0 0], .int .i64 0, .bool false]) (by simp [results, Tryz.results14, go_sem, d0, d1, d2, d3, d4, d5, d6, d7, d8]) rfl ?_
          exact ⟨rfl, hB⟩
        · have h9z : ¬ (9 : Int) < (m : Int) := by omega
          by_cases h100 : 100 < k
          · have h100z : (100 : Int) < (k : Int) := by omega
            have hRn : R = none := hbad.out (by simp [h100])
            subst hRn
            clear hbad hgood HCk hrt
            have hRz := (HJ7.out.block _ (Array.getElem?_eq_some_iff.1 HRs.out).1).trans HRs.out
            obtain ⟨⟨r0, r1, r2, r3, r4, r5, r6, r7, r8⟩, z0, z1, z2, z3, z4, z5, z6, z7, z8⟩ := cells9R hRz
            have HD := Lib.hid (set9_boxR hRz ⟨#[]⟩ 0 0 0 0 0 0 0 (.slice none 0 0))
            have HBz := Lib.hid (set9_below (T := w.heap.size) (p := ⟨#[]⟩) (a0 := 0) (a1 := 0) (a2 := 0) (a3 := 0) (n := 0) (m := 0) (k := 0) (s := .slice none 0 0) (HB0.out.trans (HJ7.out.mono HB0.out.size)) (Nat.le_refl _))
            clear hRz
            go_wp2
            obtain ⟨⟨d0, d1, d2, d3, d4, d5, d6, d7, d8⟩, _⟩ := cells9R HD.out
            have hB := HBz.out
            unfold set9 at d0 d1 d2 d3 d4 d5 d6 d7 d8 hB
            refine bodyPost_ret (v := .tuple #[.agg #[.string ⟨#[]⟩, .int .u64 0, .int .u64 0, .int .u64 0, .int .u64 0, .int .i64 0, .int .i64 0, .int .i64 0, .slice none 0 0], .int .i64 0, .bool false]) (by simp [results, Tryz.results14, go_sem, d0, d1, d2, d3, d4, d5, d6, d7, d8]) rfl ?_
            exact ⟨rfl, hB⟩
          · have h100z : ¬ (100 : Int) < (k : Int) := by omega
            have HG := Lib.hid (hgood.out (by trivial) (by trivial) (by trivial) (by trivial) (by trivial) (by trivial) (by omega) (by omega) (by omega))
            have HCq := Lib.hid (HCk.out (by trivial) (by omega) (by omega) (by omega) (by trivial) (by trivial))
            have HRt := Lib.hid (hrt.out (by trivial))
            have hnw : IntKind.i64.wrap (n : Int) = (n : Int) := by rw [IntKind.wrap_i64]; omega
            have hmw : IntKind.i64.wrap (m : Int) = (m : Int) := by rw [IntKind.wrap_i64]; omega
            have hkw : IntKind.i64.wrap (k : Int) = (k : Int) := by rw [IntKind.wrap_i64]; omega
            clear hbad hgood HCk hrt
            have hv0 := cell_at HV7.out (i := 0) rfl
            have hv1 := cell_at HV7.out (i := 1) rfl
            have hv2 := cell_at HV7.out (i := 2) rfl
            have hv3 := cell_at HV7.out (i := 3) rfl
            go_upto_region 14 with fail
            have hzx := heap_alloc_new w7 (box9R p V0 V1 V2 V3 n m k (.slice la lsz lc))
            have g2 := grew w7 (box9R p V0 V1 V2 V3 n m k (.slice la lsz lc))
            unfold box9R at hzx g2
            generalize w7.alloc _ = w8 at hzx g2 ⊢
            have hT2l : w7.heap.size ≤ w7.heap.size := Nat.le_refl _
            have HU8 := Lib.hid (HU7.out.below g2)
            have HJ8 := Lib.hid (grows HJ7.out g2)
            generalize w7.heap.size = T2 at hzx hT2l ⊢
            have hT2 : w8.heap[T2]? = some (box9R p V0 V1 V2 V3 n m k (.slice la lsz lc)) := hzx
            clear hzx g2 hT2l hv0 hv1 hv2 hv3 HU7 HJ7 HV7
            obtain ⟨⟨c0, c1, c2, c3, c4, c5, c6, c7, c8⟩, _⟩ := cells9R hT2
            have HT2 := Lib.hid hT2
            clear hT2
            go_wp2_with fail
            with_reducible refine (HCq.out _ _ HU8.out).mono ?_
            rintro _ w9 ⟨rfl, k9⟩
            have HU9 := Lib.hid (HU8.out.below k9)
            have HJ9 := Lib.hid (grows HJ8.out k9)
            have hT9 := (k9.block _ (Array.getElem?_eq_some_iff.1 HT2.out).1).trans HT2.out
            have HT9 := Lib.hid hT9
            clear c0 c1 c2 c3 c4 c5 c6 c7 c8 k9 hT9 HU8 HJ8 HT2 HCq
            by_cases hr0 : r = 0
            · have hRs := HG.out.1 hr0
              subst hr0
              subst hRs
              have hXe : ∀ u, valJ X u = .agg #[.string p, .int .u64 V0, .int .u64 V1, .int .u64 V2, .int .u64 V3, .int .i64 n, .int .i64 m, .int .i64 k, u] := hX.out
              have HXe := Lib.hid hXe
              clear hXe HG
              have hRz := (HJ9.out.block _ (Array.getElem?_eq_some_iff.1 HRs.out).1).trans HRs.out
              obtain ⟨⟨r0, r1, r2, r3, r4, r5, r6, r7, r8⟩, z0, z1, z2, z3, z4, z5, z6, z7, z8⟩ := cells9R hRz
              obtain ⟨⟨c0, c1, c2, c3, c4, c5, c6, c7, c8⟩, _⟩ := cells9R HT9.out
              have HD := Lib.hid (set9_boxR hRz p V0 V1 V2 V3 n m k (.slice la lsz lc))
              have HBz := Lib.hid (set9_below (T := w.heap.size) (p := p) (a0 := V0) (a1 := V1) (a2 := V2) (a3 := V3) (n := n) (m := m) (k := k) (s := .slice la lsz lc) (HB0.out.trans (HJ9.out.mono HB0.out.size)) (Nat.le_refl _))
              have HTk := Lib.hid (fresh_keptR HU9.out HRt.out hRz p V0 V1 V2 V3 n m k la lsz lc)
              clear hRz
              go_wp2
              obtain ⟨⟨d0, d1, d2, d3, d4, d5, d6, d7, d8⟩, _⟩ := cells9R HD.out
              have hB := HBz.out
              have hTk := HTk.out
              unfold set9 at d0 d1 d2 d3 d4 d5 d6 d7 d8 hB hTk
              refine bodyPost_ret (v := .tuple #[.agg #[.string p, .int .u64 V0, .int .u64 V1, .int .u64 V2, .int .u64 V3, .int .i64 n, .int .i64 m, .int .i64 k, .slice la lsz lc], .int .i64 Q, .bool true]) (by simp [results, Tryz.results14, go_sem, d0, d1, d2, d3, d4, d5, d6, d7, d8]) rfl ?_
              exact ⟨⟨_, by rw [HXe.out], by rw [hXt.out]; exact hTk⟩, hB⟩
            · have hRn := HG.out.2 hr0
              subst hRn
              have hne : (r != 0) = true := by simpa using hr0
              clear HG hr0
              have hRz := (HJ9.out.block _ (Array.getElem?_eq_some_iff.1 HRs.out).1).trans HRs.out
              obtain ⟨⟨r0, r1, r2, r3, r4, r5, r6, r7, r8⟩, z0, z1, z2, z3, z4, z5, z6, z7, z8⟩ := cells9R hRz
              have HD := Lib.hid (set9_boxR hRz ⟨#[]⟩ 0 0 0 0 0 0 0 (.slice none 0 0))
              have HBz := Lib.hid (set9_below (T := w.heap.size) (p := ⟨#[]⟩) (a0 := 0) (a1 := 0) (a2 := 0) (a3 := 0) (n := 0) (m := 0) (k := 0) (s := .slice none 0 0) (HB0.out.trans (HJ9.out.mono HB0.out.size)) (Nat.le_refl _))
              clear hRz
              go_wp2
              obtain ⟨⟨d0, d1, d2, d3, d4, d5, d6, d7, d8⟩, _⟩ := cells9R HD.out
              have hB := HBz.out
              unfold set9 at d0 d1 d2 d3 d4 d5 d6 d7 d8 hB
              refine bodyPost_ret (v := .tuple #[.agg #[.string ⟨#[]⟩, .int .u64 0, .int .u64 0, .int .u64 0, .int .u64 0, .int .i64 0, .int .i64 0, .int .i64 0, .slice none 0 0], .int .i64 0, .bool false]) (by simp [results, Tryz.results14, go_sem, d0, d1, d2, d3, d4, d5, d6, d7, d8]) rfl ?_
              exact ⟨rfl, hB⟩
    · have hRn : R = none := hbad.out (by simp)
      subst hRn
      clear hbad hgood HCk hrt HN HM HK HS
      have hRz := (HJ3.out.block _ (Array.getElem?_eq_some_iff.1 HRs.out).1).trans HRs.out
      obtain ⟨⟨r0, r1, r2, r3, r4, r5, r6, r7, r8⟩, z0, z1, z2, z3, z4, z5, z6, z7, z8⟩ := cells9R hRz
      have HD := Lib.hid (set9_boxR hRz ⟨#[]⟩ 0 0 0 0 0 0 0 (.slice none 0 0))
      have HBz := Lib.hid (set9_below (T := w.heap.size) (p := ⟨#[]⟩) (a0 := 0) (a1 := 0) (a2 := 0) (a3 := 0) (n := 0) (m := 0) (k := 0) (s := .slice none 0 0) (HB0.out.trans (HJ3.out.mono HB0.out.size)) (Nat.le_refl _))
      clear hRz
      go_wp2
      obtain ⟨⟨d0, d1, d2, d3, d4, d5, d6, d7, d8⟩, _⟩ := cells9R HD.out
      have hB := HBz.out
      unfold set9 at d0 d1 d2 d3 d4 d5 d6 d7 d8 hB
      refine bodyPost_ret (v := .tuple #[.agg #[.string ⟨#[]⟩, .int .u64 0, .int .u64 0, .int .u64 0, .int .u64 0, .int .i64 0, .int .i64 0, .int .i64 0, .slice none 0 0], .int .i64 0, .bool false]) (by simp [results, Tryz.results14, go_sem, d0, d1, d2, d3, d4, d5, d6, d7, d8]) rfl ?_
      exact ⟨rfl, hB⟩
  · have hRn : R = none := hbad.out (by simp)
    subst hRn
    clear hbad hgood HCk hrt HV HN HM HK HS k1
    have hRz := (HJ1.out.block _ (Array.getElem?_eq_some_iff.1 HRs.out).1).trans HRs.out
    obtain ⟨⟨r0, r1, r2, r3, r4, r5, r6, r7, r8⟩, z0, z1, z2, z3, z4, z5, z6, z7, z8⟩ := cells9R hRz
    have HD := Lib.hid (set9_boxR hRz ⟨#[]⟩ 0 0 0 0 0 0 0 (.slice none 0 0))
    have HBz := Lib.hid (set9_below (T := w.heap.size) (p := ⟨#[]⟩) (a0 := 0) (a1 := 0) (a2 := 0) (a3 := 0) (n := 0) (m := 0) (k := 0) (s := .slice none 0 0) (HB0.out.trans (HJ1.out.mono HB0.out.size)) (Nat.le_refl _))
    clear hRz
    go_wp2
    obtain ⟨⟨d0, d1, d2, d3, d4, d5, d6, d7, d8⟩, _⟩ := cells9R HD.out
    have hB := HBz.out
    unfold set9 at d0 d1 d2 d3 d4 d5 d6 d7 d8 hB
    refine bodyPost_ret (v := .tuple #[.agg #[.string ⟨#[]⟩, .int .u64 0, .int .u64 0, .int .u64 0, .int .u64 0, .int .i64 0, .int .i64 0, .int .i64 0, .slice none 0 0], .int .i64 0, .bool false]) (by simp [results, Tryz.results14, go_sem, d0, d1, d2, d3, d4, d5, d6, d7, d8]) rfl ?_
    exact ⟨rfl, hB⟩
/-- The row that Get of chapter 5 answers. -/
def listG : Option (List Tm × Int) → List Tm
  | none => []
  | some x => x.1
def posG : Option (List Tm × Int) → Int
  | none => 0
  | some x => x.2
theorem flatG {r : Option (List Tm × Int)} {w : World} {e : Ending} {w' : World} (h : TellsG r w e w') : (∃ u, e = .returned (.tuple #[u, .int .i64 (posG r), .bool r.isSome]) ∧ TRow w' u (listG r)) ∧ Below w.heap.size w w' := by
  obtain ⟨h1, h2⟩ := h
  refine ⟨?_, h2⟩
  cases r with
  | none => exact ⟨_, h1, TRow.nil _⟩
  | some x => obtain ⟨v, h3, h4⟩ := h1; exact ⟨v, h3, h4⟩
set_option maxHeartbeats 1000000 in
theorem refGetJ_any (s : ByteArray) (hs : s.size ≤ 1048576) (p : Int) (w : World) : Calls Tryz.prog 14 #[.string s, .int .i64 p] w (TellsJG (getJ s p) w) := by
  have hs2 : s.size ≤ 9223372036854775797 := by omega
  cases ht : Wire.textV s.data.toList p 98 with
  | none =>
    have hn : getJ s p = none := by unfold getJ fieldsJ; rw [ht]
    rw [hn]
    exact refGetJ_run s p w ⟨#[]⟩ 0 0 0 0 0 0 0 0 0 0 false false false false false false 0 0 0 [] 0 none (⟨#[]⟩, (0, 0, 0, 0), (0, 0, 0), [])
      (Lib.hid fun u => rfl) (Lib.hid rfl) (Lib.hid fun h => by cases h)
      (Lib.hid fun W => (refText_no s hs2 p 98 (by omega) ht W).mono fun e w' h => ⟨h.1, h.2 ▸ Below.refl _ _⟩) (Lib.hid fun h => by cases h) (Lib.hid fun h => by cases h) (Lib.hid fun h => by cases h) (Lib.hid fun h => by cases h) (Lib.hid fun h => by cases h) (Lib.hid fun h => by cases h) (Lib.hid fun _ => rfl) (Lib.hid fun h => by cases h)
  | some x =>
    obtain ⟨a0, n⟩ := x
    by_cases hall : ∀ i, i < 4 → okAt s.data.toList n i = true
    · have hall2 : (okAt s.data.toList n 0 && (okAt s.data.toList n 1 && (okAt s.data.toList n 2 && okAt s.data.toList n 3))) = true := by
        rw [hall 0 (by omega), hall 1 (by omega), hall 2 (by omega), hall 3 (by omega)]; rfl
      obtain ⟨B, hB⟩ : ∃ B, B = posAt s.data.toList n 4 := ⟨_, rfl⟩
      obtain ⟨E, hE⟩ : ∃ E, E = posAt s.data.toList B 3 := ⟨_, rfl⟩
      have hP : getJ s p = if (good (valN s.data.toList B) (okAt s.data.toList B) 0 && (good (valN s.data.toList B) (okAt s.data.toList B) 1 && good (valN s.data.toList B) (okAt s.data.toList B) 2)) = true then (match getS s E with
          | none => none
          | some x => if checkJ (s.extract a0 n, (valN s.data.toList n 0, valN s.data.toList n 1, valN s.data.toList n 2, valN s.data.toList n 3), ((valN s.data.toList B 0 : Int), (valN s.data.toList B 1 : Int), (valN s.data.toList B 2 : Int)), x.1) = 0 then some ((s.extract a0 n, (valN s.data.toList n 0, valN s.data.toList n 1, valN s.data.toList n 2, valN s.data.toList n 3), ((valN s.data.toList B 0 : Int), (valN s.data.toList B 1 : Int), (valN s.data.toList B 2 : Int)), x.1), x.2) else none) else none := by
        unfold getJ fieldsJ
        rw [ht]
        dsimp only
        rw [if_pos hall2, ← hB, ← hE]
        by_cases hg : (good (valN s.data.toList B) (okAt s.data.toList B) 0 && (good (valN s.data.toList B) (okAt s.data.toList B) 1 && good (valN s.data.toList B) (okAt s.data.toList B) 2)) = true
        · rw [if_pos hg, if_pos hg]
          cases getS s E with
          | none => rfl
          | some x => rfl
        · rw [if_neg hg, if_neg hg]
      have hIn : ∀ x, getJ s p = some x → okAt s.data.toList B 0 = true ∧ okAt s.data.toList B 1 = true ∧ okAt s.data.toList B 2 = true ∧ (getS s E).isSome = true ∧ valN s.data.toList B 0 ≤ 8 ∧ valN s.data.toList B 1 ≤ 9 ∧ valN s.data.toList B 2 ≤ 100 := by
        intro x hx
        rw [hP] at hx
        by_cases hg : (good (valN s.data.toList B) (okAt s.data.toList B) 0 && (good (valN s.data.toList B) (okAt s.data.toList B) 1 && good (valN s.data.toList B) (okAt s.data.toList B) 2)) = true
        · rw [if_pos hg] at hx
          cases hs : getS s E with
          | none => rw [hs] at hx; cases hx
          | some y =>
            rw [hs] at hx
            dsimp only at hx
            by_cases hc : checkJ (s.extract a0 n, (valN s.data.toList n 0, valN s.data.toList n 1, valN s.data.toList n 2, valN s.data.toList n 3), ((valN s.data.toList B 0 : Int), (valN s.data.toList B 1 : Int), (valN s.data.toList B 2 : Int)), y.1) = 0
            · have hb : inB (valN s.data.toList B 0 : Int) (valN s.data.toList B 1 : Int) (valN s.data.toList B 2 : Int) = true := (checkJ_ok.1 hc).2.1
              have hb := inB_of hb
              unfold good at hg
              simp only [Bool.and_eq_true, decide_eq_true_eq] at hg
              exact ⟨hg.1.1, hg.2.1.1, hg.2.2.1, rfl, by omega, by omega, by omega⟩
            · rw [if_neg hc] at hx
              cases hx
        · rw [if_neg hg] at hx
          cases hx
      have hn : a0 ≤ n ∧ n ≤ s.data.toList.length ∧ n ≤ a0 + 98 := textV_near (m := 98) ht
      obtain ⟨X, hXd⟩ : ∃ X : Jb, X = (s.extract a0 n, (valN s.data.toList n 0, valN s.data.toList n 1, valN s.data.toList n 2, valN s.data.toList n 3), ((valN s.data.toList B 0 : Int), (valN s.data.toList B 1 : Int), (valN s.data.toList B 2 : Int)), listG (getS s E)) := ⟨_, rfl⟩
      have hfX : (getS s E).isSome = true → FairJ X := fun h1 => by
        obtain ⟨y, hy⟩ := Option.isSome_iff_exists.1 h1
        rw [hXd, hy]
        exact ⟨by show (s.extract a0 n).size ≤ _; rw [ByteArray.size_extract]; omega, fun k hk => by rcases lt4 hk with rfl | rfl | rfl | rfl <;> exact valN_lt _ _ _, fair_right (getS_right hy)⟩
      have hat : ∀ j W, Calls Tryz.prog 36 #[.string s, .int .i64 (posAt s.data.toList B j)] W fun e w' => e = .returned (.tuple #[.int .u64 (valN s.data.toList B j : Nat), .int .i64 (posAt s.data.toList B (j + 1)), .bool (okAt s.data.toList B j)]) ∧ Below W.heap.size W w' := fun j W => by
        rw [← valAt_eq]
        exact refGet_at s hs2 B j W
      refine refGetJ_run s p w (s.extract a0 n) n B (posAt s.data.toList B 1) (posAt s.data.toList B 2) E (posG (getS s E)) (valN s.data.toList n 0 : Nat) (valN s.data.toList n 1 : Nat) (valN s.data.toList n 2 : Nat) (valN s.data.toList n 3 : Nat) true true (okAt s.data.toList B 0) (okAt s.data.toList B 1) (okAt s.data.toList B 2) (getS s E).isSome (valN s.data.toList B 0) (valN s.data.toList B 1) (valN s.data.toList B 2) (listG (getS s E)) (checkJ X) (getJ s p) X
        (Lib.hid fun u => by rw [hXd]; rfl) (Lib.hid (by rw [hXd]; rfl)) (Lib.hid fun h => ?_) (Lib.hid fun W => (refText_yes s hs2 p 98 (by omega) a0 n ht W).mono fun e w' h => ⟨h.1, h.2 ▸ Below.refl _ _⟩)
        (Lib.hid fun _ W => (refGetV_on s hs2 n W).mono fun e w' h => ?_) (Lib.hid fun _ _ W => hat 0 W) (Lib.hid fun _ _ W => hat 1 W) (Lib.hid fun _ _ W => by rw [hE]; exact hat 2 W)
        (Lib.hid fun _ _ W => (refGetS_any s hs E W).mono fun e w' h => flatG h) (Lib.hid fun h1 _ _ _ _ _ u W hu => ?_) (Lib.hid fun hb => ?_) (Lib.hid fun _ _ h2 h3 h4 h5 h7 h8 h9 => ?_)
      · obtain ⟨y, hy⟩ := Option.isSome_iff_exists.1 h
        rw [hy]
        exact getS_right hy
      · obtain ⟨h | h, hb⟩ := h
        · refine ⟨?_, hb⟩
          rw [h.2, valAt_eq, valAt_eq, valAt_eq, valAt_eq, ← hB]
          rfl
        · exact absurd hall h.1
      · have := refCheck_any X u W (hfX h1) (by rw [hXd]; exact hu)
        rw [hXd] at this ⊢
        exact this
      · cases hp : getJ s p with
        | none => rfl
        | some x =>
          exfalso
          obtain ⟨g2, g3, g4, g5, g6, g7, g8⟩ := hIn x hp
          rw [g2, g3, g4, g5] at hb
          rcases hb with h | h | h | h | h | h | h | h | h
          · cases h
          · cases h
          · cases h
          · cases h
          · cases h
          · cases h
          · omega
          · omega
          · omega
      · obtain ⟨y, hy⟩ := Option.isSome_iff_exists.1 h5
        have hg : (good (valN s.data.toList B) (okAt s.data.toList B) 0 && (good (valN s.data.toList B) (okAt s.data.toList B) 1 && good (valN s.data.toList B) (okAt s.data.toList B) 2)) = true := by
          unfold good
          simp only [Bool.and_eq_true, decide_eq_true_eq]
          exact ⟨⟨h2, by omega⟩, ⟨h3, by omega⟩, ⟨h4, by omega⟩⟩
        rw [hy] at hXd
        rw [hP, if_pos hg, hy]
        dsimp only
        subst hXd
        exact ⟨fun hr => if_pos hr, fun hr => if_neg hr⟩
    · have hn : getJ s p = none := by
        unfold getJ fieldsJ
        rw [ht]
        dsimp only
        rw [if_neg]
        intro h
        simp only [Bool.and_eq_true] at h
        exact hall fun i hi => by
          rcases lt4 hi with rfl | rfl | rfl | rfl
          · exact h.1
          · exact h.2.1
          · exact h.2.2.1
          · exact h.2.2.2
      rw [hn]
      exact refGetJ_run s p w (s.extract a0 n) n 0 0 0 0 0 0 0 0 0 true false false false false false 0 0 0 [] 0 none (s.extract a0 n, (0, 0, 0, 0), (0, 0, 0), [])
        (Lib.hid fun u => rfl) (Lib.hid rfl) (Lib.hid fun h => by cases h)
        (Lib.hid fun W => (refText_yes s hs2 p 98 (by omega) a0 n ht W).mono fun e w' h => ⟨h.1, h.2 ▸ Below.refl _ _⟩)
        (Lib.hid fun _ W => (refGetV_on s hs2 n W).mono fun e w' h => by
          obtain ⟨h | h, hb⟩ := h
          · exact absurd h.1 hall
          · exact ⟨h.2, hb⟩) (Lib.hid fun _ h => by cases h) (Lib.hid fun _ h => by cases h) (Lib.hid fun _ h => by cases h) (Lib.hid fun _ h => by cases h) (Lib.hid fun h => by cases h) (Lib.hid fun _ => rfl) (Lib.hid fun _ h => by cases h)
end Go.Proofs.YtbilkeadhflibaaGreatDoor.Job
