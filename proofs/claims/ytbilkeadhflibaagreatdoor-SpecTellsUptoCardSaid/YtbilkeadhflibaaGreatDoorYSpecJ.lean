/- SpecTells, walked: of letters. -/
import Derived.Test.YtbilkeadhflibaaGreatDoorYSpecI
namespace Go.Proofs.YtbilkeadhflibaaGreatDoor.Job
open Go.RowKit Go.Proofs.YtbilkeadhflibaaGreatDoor.Wire Go.Proofs.YtbilkeadhflibaaGreatDoor.Vec Go.Proofs.YtbilkeadhflibaaGreatDoor.Sel Go.Proofs.YtbilkeadhflibaaGreatDoor.Texts

section
variable {ops : Array Oper} {j : Nat} {ρ : Operand → Value} {x y : Operand} {w : World} {b i : Nat}
theorem load_jobS {p : ByteArray} {a0 a1 a2 a3 n m k : Int} {a : Option Addr} {sn sc : Nat} (ho : Step.opAt ops j = some (.load 27 x)) (hx : ρ x = .pointer (some ⟨b, 0, none⟩)) (h : w.heap[b]? = some (.cells #[.string p, .int .u64 a0, .int .u64 a1, .int .u64 a2, .int .u64 a3, .int .i64 n, .int .i64 m, .int .i64 k, .slice a sn sc] 27)) :
    Step.runAt Tryz.prog ops j ρ w = .ok (.value (.agg #[.string p, .int .u64 a0, .int .u64 a1, .int .u64 a2, .int .u64 a3, .int .i64 n, .int .i64 m, .int .i64 k, .slice a sn sc])) w := by
  obtain ⟨⟨c0, c1, c2, c3, c4, c5, c6, c7, c8⟩, _⟩ := cells9 (show _ = some (box9 _ _ _ _ _ _ _ _ _) from h)
  clear h
  refine Step.run_of ho fun o hop => ?_
  unfold execOp
  rw [hop]
  simp only [hx]
  go_simp
theorem load_jobR {p : ByteArray} {a0 a1 a2 a3 n m k : Int} {a : Option Addr} {sn sc : Nat} (ho : Step.opAt ops j = some (.load 33 x)) (hx : ρ x = .pointer (some ⟨b, 0, none⟩)) (h : w.heap[b]? = some (.cells #[.string p, .int .u64 a0, .int .u64 a1, .int .u64 a2, .int .u64 a3, .int .i64 n, .int .i64 m, .int .i64 k, .slice a sn sc] 33)) :
    Step.runAt Tryz.prog ops j ρ w = .ok (.value (.agg #[.string p, .int .u64 a0, .int .u64 a1, .int .u64 a2, .int .u64 a3, .int .i64 n, .int .i64 m, .int .i64 k, .slice a sn sc])) w := by
  obtain ⟨⟨c0, c1, c2, c3, c4, c5, c6, c7, c8⟩, _⟩ := cells9R (show _ = some (box9R _ _ _ _ _ _ _ _ _) from h)
  clear h
  refine Step.run_of ho fun o hop => ?_
  unfold execOp
  rw [hop]
  simp only [hx]
  go_simp
theorem load_vecV {a0 a1 a2 a3 : Int} (ho : Step.opAt ops j = some (.load 24 x)) (hx : ρ x = .pointer (some ⟨b, 0, none⟩)) (h : w.heap[b]? = some (.cells #[.int .u64 a0, .int .u64 a1, .int .u64 a2, .int .u64 a3] 24)) :
    Step.runAt Tryz.prog ops j ρ w = .ok (.value (.agg #[.int .u64 a0, .int .u64 a1, .int .u64 a2, .int .u64 a3])) w := by
  have c0 := cell_at h (i := 0) rfl
  have c1 := cell_at h (i := 1) rfl
  have c2 := cell_at h (i := 2) rfl
  have c3 := cell_at h (i := 3) rfl
  clear h
  refine Step.run_of ho fun o hop => ?_
  unfold execOp
  rw [hop]
  simp only [hx]
  go_simp
theorem load_vecR {a0 a1 a2 a3 : Int} (ho : Step.opAt ops j = some (.load 30 x)) (hx : ρ x = .pointer (some ⟨b, 0, none⟩)) (h : w.heap[b]? = some (.cells #[.int .u64 a0, .int .u64 a1, .int .u64 a2, .int .u64 a3] 30)) :
    Step.runAt Tryz.prog ops j ρ w = .ok (.value (.agg #[.int .u64 a0, .int .u64 a1, .int .u64 a2, .int .u64 a3])) w := by
  have c0 := cell_at h (i := 0) rfl
  have c1 := cell_at h (i := 1) rfl
  have c2 := cell_at h (i := 2) rfl
  have c3 := cell_at h (i := 3) rfl
  clear h
  refine Step.run_of ho fun o hop => ?_
  unfold execOp
  rw [hop]
  simp only [hx]
  go_simp
theorem neqI_run (n : Int) {t : TypeId} (ho : Step.opAt ops j = some (.binOp .neq 3 x y t)) (hx : ρ x = .int .i64 n) (hy : ρ y = .int .i64 n) : Step.runAt Tryz.prog ops j ρ w = .ok (.value (.bool false)) w := by
  refine Step.run_of ho fun o hop => ?_
  unfold execOp
  rw [hop]
  simp only [hx, hy]
  go_simp
theorem eqlI_run (n : Int) {t : TypeId} (ho : Step.opAt ops j = some (.binOp .eql 3 x y t)) (hx : ρ x = .int .i64 n) (hy : ρ y = .int .i64 n) : Step.runAt Tryz.prog ops j ρ w = .ok (.value (.bool true)) w := by
  refine Step.run_of ho fun o hop => ?_
  unfold execOp
  rw [hop]
  simp only [hx, hy]
  go_simp
theorem neqB_run (r : Bool) {t : TypeId} (ho : Step.opAt ops j = some (.binOp .neq 4 x y t)) (hx : ρ x = .bool r) (hy : ρ y = .bool r) : Step.runAt Tryz.prog ops j ρ w = .ok (.value (.bool false)) w := by
  refine Step.run_of ho fun o hop => ?_
  unfold execOp
  rw [hop]
  simp only [hx, hy]
  go_simp
theorem eqlB_run (r : Bool) {t : TypeId} (ho : Step.opAt ops j = some (.binOp .eql 4 x y t)) (hx : ρ x = .bool r) (hy : ρ y = .bool r) : Step.runAt Tryz.prog ops j ρ w = .ok (.value (.bool true)) w := by
  refine Step.run_of ho fun o hop => ?_
  unfold execOp
  rw [hop]
  simp only [hx, hy]
  go_simp
theorem eqlT_run (s : ByteArray) {t : TypeId} (ho : Step.opAt ops j = some (.binOp .eql 9 x y t)) (hx : ρ x = .string s) (hy : ρ y = .string s) : Step.runAt Tryz.prog ops j ρ w = .ok (.value (.bool true)) w := by
  refine Step.run_of ho fun o hop => ?_
  unfold execOp
  rw [hop]
  simp only [hx, hy]
  go_simp
theorem neqV_run (a0 a1 a2 a3 : Int) {t : TypeId} (ho : Step.opAt ops j = some (.binOp .neq 30 x y t)) (hx : ρ x = .agg #[.int .u64 a0, .int .u64 a1, .int .u64 a2, .int .u64 a3]) (hy : ρ y = .agg #[.int .u64 a0, .int .u64 a1, .int .u64 a2, .int .u64 a3]) : Step.runAt Tryz.prog ops j ρ w = .ok (.value (.bool false)) w := by
  refine Step.run_of ho fun o hop => ?_
  unfold execOp
  rw [hop]
  simp only [hx, hy]
  have hq : (Op.equalIn 10000 30 (.agg #[.int .u64 a0, .int .u64 a1, .int .u64 a2, .int .u64 a3]) (.agg #[.int .u64 a0, .int .u64 a1, .int .u64 a2, .int .u64 a3])).run Tryz.prog w = .ok true w := by
    rw [← same_refl a0 a1 a2 a3]
    exact equal_vecR 9998 a0 a1 a2 a3 a0 a1 a2 a3 w
  go_simp
end
set_option maxHeartbeats 8000000 in
set_option maxRecDepth 100000 in
theorem tells9 (P : ByteArray) (A0 A1 A2 A3 N1 N2 N3 : Int) (sa : Option Addr) (sn sc : Nat) (la : List Tm) (PB : ByteArray) (B0 B1 B2 B3 M1 M2 M3 : Int) (ta : Option Addr) (tn tc : Nat) (lb : List Tm) (s : ByteArray) (at0 : Int) (wa : Option Addr) (wn wc : Nat)
    (PX : ByteArray) (X0 X1 X2 X3 K1 K2 K3 : Int) (lx : List Tm) (q : Int) (g : Bool) (PY : ByteArray) (Y0 Y1 Y2 Y3 L1 L2 L3 : Int) (ly : List Tm) (h : Bool) (T0 T1 T2 T3 : Int) (ok : Bool) (c : Int) (d : Bool) (z t : ByteArray) (w : World)
    (HX : Hid (∀ W, Below w.heap.size w W → Calls Tryz.prog 9 #[] W fun e w' => e = .returned (.bool true) ∧ Below W.heap.size W w'))
    (HRa : Hid (∀ W, Below w.heap.size w W → Calls Tryz.prog 10 #[.agg #[.string P, .int .u64 A0, .int .u64 A1, .int .u64 A2, .int .u64 A3, .int .i64 N1, .int .i64 N2, .int .i64 N3, .slice sa sn sc]] W fun e w' => (∃ u, e = .returned (.agg #[.string P, .int .u64 A0, .int .u64 A1, .int .u64 A2, .int .u64 A3, .int .i64 N1, .int .i64 N2, .int .i64 N3, u]) ∧ TRow w' u la) ∧ Below W.heap.size W w'))
    (HRb : Hid (∀ W, Below w.heap.size w W → Calls Tryz.prog 10 #[.agg #[.string PB, .int .u64 B0, .int .u64 B1, .int .u64 B2, .int .u64 B3, .int .i64 M1, .int .i64 M2, .int .i64 M3, .slice ta tn tc]] W fun e w' => (∃ u, e = .returned (.agg #[.string PB, .int .u64 B0, .int .u64 B1, .int .u64 B2, .int .u64 B3, .int .i64 M1, .int .i64 M2, .int .i64 M3, u]) ∧ TRow w' u lb) ∧ Below W.heap.size W w'))
    (HRx : Hid (∀ u W0 W, TRow W0 u lx → Below W0.heap.size W0 W → Calls Tryz.prog 10 #[.agg #[.string PX, .int .u64 X0, .int .u64 X1, .int .u64 X2, .int .u64 X3, .int .i64 K1, .int .i64 K2, .int .i64 K3, u]] W fun e w' => (∃ u', e = .returned (.agg #[.string PX, .int .u64 X0, .int .u64 X1, .int .u64 X2, .int .u64 X3, .int .i64 K1, .int .i64 K2, .int .i64 K3, u']) ∧ TRow w' u' lx) ∧ Below W.heap.size W w'))
    (HRy : Hid (∀ u W0 W, TRow W0 u ly → Below W0.heap.size W0 W → Calls Tryz.prog 10 #[.agg #[.string PY, .int .u64 Y0, .int .u64 Y1, .int .u64 Y2, .int .u64 Y3, .int .i64 L1, .int .i64 L2, .int .i64 L3, u]] W fun e w' => (∃ u', e = .returned (.agg #[.string PY, .int .u64 Y0, .int .u64 Y1, .int .u64 Y2, .int .u64 Y3, .int .i64 L1, .int .i64 L2, .int .i64 L3, u']) ∧ TRow w' u' ly) ∧ Below W.heap.size W w'))
    (HTo : Hid (∀ W, Calls Tryz.prog 11 #[.agg #[.string P, .int .u64 A0, .int .u64 A1, .int .u64 A2, .int .u64 A3, .int .i64 N1, .int .i64 N2, .int .i64 N3, .slice sa sn sc]] W fun e w' => e = .returned (.tuple #[.agg #[.int .u64 T0, .int .u64 T1, .int .u64 T2, .int .u64 T3], .bool ok]) ∧ Below W.heap.size W w'))
    (HTr : Hid (∀ u W, Calls Tryz.prog 12 #[.agg #[.string P, .int .u64 A0, .int .u64 A1, .int .u64 A2, .int .u64 A3, .int .i64 N1, .int .i64 N2, .int .i64 N3, u]] W fun e w' => e = .returned (.tuple #[.agg #[.int .u64 T0, .int .u64 T1, .int .u64 T2, .int .u64 T3], .bool ok]) ∧ Below W.heap.size W w'))
    (HG : Hid (∀ W, Below w.heap.size w W → Calls Tryz.prog 13 #[.string s, .int .i64 at0] W fun e w' => (∃ u, e = .returned (.tuple #[.agg #[.string PX, .int .u64 X0, .int .u64 X1, .int .u64 X2, .int .u64 X3, .int .i64 K1, .int .i64 K2, .int .i64 K3, u], .int .i64 q, .bool g]) ∧ TRow w' u lx) ∧ Below W.heap.size W w'))
    (HGr : Hid (∀ W, Calls Tryz.prog 14 #[.string s, .int .i64 at0] W fun e w' => (∃ u, e = .returned (.tuple #[.agg #[.string PX, .int .u64 X0, .int .u64 X1, .int .u64 X2, .int .u64 X3, .int .i64 K1, .int .i64 K2, .int .i64 K3, u], .int .i64 q, .bool g]) ∧ TRow w' u lx) ∧ Below W.heap.size W w'))
    (HP : Hid (∀ W, Below w.heap.size w W → Calls Tryz.prog 15 #[.slice wa wn wc] W fun e w' => (∃ u, e = .returned (.tuple #[.agg #[.string PY, .int .u64 Y0, .int .u64 Y1, .int .u64 Y2, .int .u64 Y3, .int .i64 L1, .int .i64 L2, .int .i64 L3, u], .bool h]) ∧ TRow w' u ly) ∧ Below W.heap.size W w'))
    (HPr : Hid (∀ W, Below w.heap.size w W → Calls Tryz.prog 16 #[.slice wa wn wc] W fun e w' => (∃ u, e = .returned (.tuple #[.agg #[.string PY, .int .u64 Y0, .int .u64 Y1, .int .u64 Y2, .int .u64 Y3, .int .i64 L1, .int .i64 L2, .int .i64 L3, u], .bool h]) ∧ TRow w' u ly) ∧ Below W.heap.size W w'))
    (HSx : Hid (∀ u u' W, TRow W u lx → TRow W u' lx → Calls Tryz.prog 18 #[.agg #[.string PX, .int .u64 X0, .int .u64 X1, .int .u64 X2, .int .u64 X3, .int .i64 K1, .int .i64 K2, .int .i64 K3, u], .agg #[.string PX, .int .u64 X0, .int .u64 X1, .int .u64 X2, .int .u64 X3, .int .i64 K1, .int .i64 K2, .int .i64 K3, u']] W fun e w' => e = .returned (.bool true) ∧ Below W.heap.size W w'))
    (HSy : Hid (∀ u u' W, TRow W u ly → TRow W u' ly → Calls Tryz.prog 18 #[.agg #[.string PY, .int .u64 Y0, .int .u64 Y1, .int .u64 Y2, .int .u64 Y3, .int .i64 L1, .int .i64 L2, .int .i64 L3, u], .agg #[.string PY, .int .u64 Y0, .int .u64 Y1, .int .u64 Y2, .int .u64 Y3, .int .i64 L1, .int .i64 L2, .int .i64 L3, u']] W fun e w' => e = .returned (.bool true) ∧ Below W.heap.size W w'))
    (HV : Hid (∀ W, Calls Tryz.prog 17 #[.agg #[.int .u64 T0, .int .u64 T1, .int .u64 T2, .int .u64 T3]] W fun e w' => e = .returned (.agg #[.int .u64 T0, .int .u64 T1, .int .u64 T2, .int .u64 T3]) ∧ Below W.heap.size W w'))
    (HC : Hid (∀ W, Below w.heap.size w W → Calls Tryz.prog 19 #[.agg #[.string P, .int .u64 A0, .int .u64 A1, .int .u64 A2, .int .u64 A3, .int .i64 N1, .int .i64 N2, .int .i64 N3, .slice sa sn sc]] W fun e w' => e = .returned (.int .i64 c) ∧ Below W.heap.size W w'))
    (HCr : Hid (∀ u W, TRow W u la → Calls Tryz.prog 20 #[.agg #[.string P, .int .u64 A0, .int .u64 A1, .int .u64 A2, .int .u64 A3, .int .i64 N1, .int .i64 N2, .int .i64 N3, u]] W fun e w' => e = .returned (.int .i64 c) ∧ Below W.heap.size W w'))
    (HS : Hid (∀ W, Below w.heap.size w W → Calls Tryz.prog 21 #[.agg #[.string P, .int .u64 A0, .int .u64 A1, .int .u64 A2, .int .u64 A3, .int .i64 N1, .int .i64 N2, .int .i64 N3, .slice sa sn sc], .agg #[.string PB, .int .u64 B0, .int .u64 B1, .int .u64 B2, .int .u64 B3, .int .i64 M1, .int .i64 M2, .int .i64 M3, .slice ta tn tc]] W fun e w' => e = .returned (.bool d) ∧ Below W.heap.size W w'))
    (HSr : Hid (∀ u u' W, TRow W u la → TRow W u' lb → Calls Tryz.prog 18 #[.agg #[.string P, .int .u64 A0, .int .u64 A1, .int .u64 A2, .int .u64 A3, .int .i64 N1, .int .i64 N2, .int .i64 N3, u], .agg #[.string PB, .int .u64 B0, .int .u64 B1, .int .u64 B2, .int .u64 B3, .int .i64 M1, .int .i64 M2, .int .i64 M3, u']] W fun e w' => e = .returned (.bool d) ∧ Below W.heap.size W w'))
    (HPu : Hid (∀ W, Below w.heap.size w W → Calls Tryz.prog 22 #[.agg #[.string P, .int .u64 A0, .int .u64 A1, .int .u64 A2, .int .u64 A3, .int .i64 N1, .int .i64 N2, .int .i64 N3, .slice sa sn sc]] W fun e w' => e = .returned (.string z) ∧ Below W.heap.size W w'))
    (HPur : Hid (∀ u W, TRow W u la → Calls Tryz.prog 23 #[.agg #[.string P, .int .u64 A0, .int .u64 A1, .int .u64 A2, .int .u64 A3, .int .i64 N1, .int .i64 N2, .int .i64 N3, u]] W fun e w' => e = .returned (.string z) ∧ Below W.heap.size W w'))
    (HTx : Hid (∀ W, Below w.heap.size w W → Calls Tryz.prog 24 #[.agg #[.string P, .int .u64 A0, .int .u64 A1, .int .u64 A2, .int .u64 A3, .int .i64 N1, .int .i64 N2, .int .i64 N3, .slice sa sn sc]] W fun e w' => e = .returned (.string t) ∧ Below W.heap.size W w'))
    (HTxr : Hid (∀ u W, TRow W u la → Calls Tryz.prog 25 #[.agg #[.string P, .int .u64 A0, .int .u64 A1, .int .u64 A2, .int .u64 A3, .int .i64 N1, .int .i64 N2, .int .i64 N3, u]] W fun e w' => e = .returned (.string t) ∧ Below W.heap.size W w')) :
    Calls Tryz.prog 3 #[.agg #[.string P, .int .u64 A0, .int .u64 A1, .int .u64 A2, .int .u64 A3, .int .i64 N1, .int .i64 N2, .int .i64 N3, .slice sa sn sc], .agg #[.string PB, .int .u64 B0, .int .u64 B1, .int .u64 B2, .int .u64 B3, .int .i64 M1, .int .i64 M2, .int .i64 M3, .slice ta tn tc], .string s, .int .i64 at0, .slice wa wn wc] w fun e w' => e = .returned (.bool true) ∧ Below w.heap.size w w' := by
  go_enter Tryz.func3, Tryz.ntmps3
  go_upto_region 1 with fail
  have HJ : Hid (Below w.heap.size w w) := Lib.hid (Below.refl _ _)
  have hz : (w.alloc (box9 P A0 A1 A2 A3 N1 N2 N3 (.slice sa sn sc))).heap.size = w.heap.size + 1 := World.size_alloc ..
  have hv := heap_alloc_new w (box9 P A0 A1 A2 A3 N1 N2 N3 (.slice sa sn sc))
  have kv := grew w (box9 P A0 A1 A2 A3 N1 N2 N3 (.slice sa sn sc))
  unfold box9 at hv kv hz
  generalize w.alloc _ = v1 at hv kv hz ⊢
  replace HJ := Lib.hid (grows HJ.out kv)
  clear kv
  have HRA := Lib.hid hv
  clear hv
  have hv := heap_alloc_new v1 (box9 PB B0 B1 B2 B3 M1 M2 M3 (.slice ta tn tc))
  have kv := grew v1 (box9 PB B0 B1 B2 B3 M1 M2 M3 (.slice ta tn tc))
  unfold box9 at hv kv
  rw [hz] at hv
  generalize v1.alloc _ = w0 at hv kv ⊢
  replace HJ := Lib.hid (grows HJ.out kv)
  replace HRA := Lib.hid ((kv.block _ (Array.getElem?_eq_some_iff.1 HRA.out).1).trans HRA.out)
  clear kv
  have HRB := Lib.hid hv
  clear hv hz
  obtain ⟨RA, hRA⟩ : ∃ n, n = w.heap.size := ⟨_, rfl⟩
  obtain ⟨RB, hRB⟩ : ∃ n, n = w.heap.size + 1 := ⟨_, rfl⟩
  rw [← hRB] at HRB ⊢
  rw [← hRA] at HRA ⊢
  have HRAe := Lib.hid hRA
  clear hRA hRB
  go_wp2_with fail
  with_reducible refine (HX.out _ HJ.out).mono ?_
  rintro _ w1 ⟨rfl, k1⟩
  replace HJ := Lib.hid (grows HJ.out k1)
  replace HRA := Lib.hid ((k1.block _ (Array.getElem?_eq_some_iff.1 HRA.out).1).trans HRA.out)
  replace HRB := Lib.hid ((k1.block _ (Array.getElem?_eq_some_iff.1 HRB.out).1).trans HRB.out)
  clear k1
  obtain ⟨⟨c0, c1, c2, c3, c4, c5, c6, c7, c8⟩, _⟩ := cells9 (show _ = some (box9 _ _ _ _ _ _ _ _ _) from HRA.out)
  go_wp2_with fail
  with_reducible refine (HRa.out _ HJ.out).mono ?_
  rintro _ w2 ⟨⟨u0, rfl, hu0⟩, k2⟩
  clear c0 c1 c2 c3 c4 c5 c6 c7 c8
  obtain ⟨ra, rc, rfl, _, _⟩ := hu0.slice
  replace HJ := Lib.hid (grows HJ.out k2)
  replace HRA := Lib.hid ((k2.block _ (Array.getElem?_eq_some_iff.1 HRA.out).1).trans HRA.out)
  replace HRB := Lib.hid ((k2.block _ (Array.getElem?_eq_some_iff.1 HRB.out).1).trans HRB.out)
  clear k2
  have HU0 := Lib.hid hu0
  clear hu0
  go_upto_region 5 with fail
  have hv := heap_alloc_new w2 (box9R P A0 A1 A2 A3 N1 N2 N3 (.slice ra la.length rc))
  have kv := grew w2 (box9R P A0 A1 A2 A3 N1 N2 N3 (.slice ra la.length rc))
  obtain ⟨R, hRe⟩ : ∃ n, n = w2.heap.size := ⟨_, rfl⟩
  rw [← hRe] at hv ⊢
  unfold box9R at hv kv
  generalize w2.alloc _ = w3 at hv kv ⊢
  clear hRe
  replace HJ := Lib.hid (grows HJ.out kv)
  replace HRA := Lib.hid ((kv.block _ (Array.getElem?_eq_some_iff.1 HRA.out).1).trans HRA.out)
  replace HRB := Lib.hid ((kv.block _ (Array.getElem?_eq_some_iff.1 HRB.out).1).trans HRB.out)
  replace HU0 := Lib.hid (HU0.out.below kv)
  clear kv
  have HR := Lib.hid hv
  clear hv
  obtain ⟨⟨c0, c1, c2, c3, c4, c5, c6, c7, c8⟩, _⟩ := cells9 (show _ = some (box9 _ _ _ _ _ _ _ _ _) from HRA.out)
  go_wp2_with fail
  with_reducible refine (HTo.out _).mono ?_
  rintro _ w4 ⟨rfl, k4⟩
  clear c0 c1 c2 c3 c4 c5 c6 c7 c8
  replace HJ := Lib.hid (grows HJ.out k4)
  replace HRA := Lib.hid ((k4.block _ (Array.getElem?_eq_some_iff.1 HRA.out).1).trans HRA.out)
  replace HRB := Lib.hid ((k4.block _ (Array.getElem?_eq_some_iff.1 HRB.out).1).trans HRB.out)
  replace HR := Lib.hid ((k4.block _ (Array.getElem?_eq_some_iff.1 HR.out).1).trans HR.out)
  replace HU0 := Lib.hid (HU0.out.below k4)
  clear k4
  go_upto_region 6 with fail
  have hv := heap_alloc_new w4 (.cells #[.int .u64 T0, .int .u64 T1, .int .u64 T2, .int .u64 T3] 24)
  have kv := grew w4 (.cells #[.int .u64 T0, .int .u64 T1, .int .u64 T2, .int .u64 T3] 24)
  obtain ⟨GV1, hGV1e⟩ : ∃ n, n = w4.heap.size := ⟨_, rfl⟩
  rw [← hGV1e] at hv ⊢
  generalize w4.alloc _ = w5 at hv kv ⊢
  clear hGV1e
  replace HJ := Lib.hid (grows HJ.out kv)
  replace HRA := Lib.hid ((kv.block _ (Array.getElem?_eq_some_iff.1 HRA.out).1).trans HRA.out)
  replace HRB := Lib.hid ((kv.block _ (Array.getElem?_eq_some_iff.1 HRB.out).1).trans HRB.out)
  replace HR := Lib.hid ((kv.block _ (Array.getElem?_eq_some_iff.1 HR.out).1).trans HR.out)
  replace HU0 := Lib.hid (HU0.out.below kv)
  clear kv
  have HGV1 := Lib.hid hv
  clear hv
  obtain ⟨⟨c0, c1, c2, c3, c4, c5, c6, c7, c8⟩, _⟩ := cells9R (show _ = some (box9R _ _ _ _ _ _ _ _ _) from HR.out)
  go_wp2_with fail
  with_reducible refine (HTr.out _ _).mono ?_
  rintro _ w6 ⟨rfl, k6⟩
  clear c0 c1 c2 c3 c4 c5 c6 c7 c8
  replace HJ := Lib.hid (grows HJ.out k6)
  replace HRA := Lib.hid ((k6.block _ (Array.getElem?_eq_some_iff.1 HRA.out).1).trans HRA.out)
  replace HRB := Lib.hid ((k6.block _ (Array.getElem?_eq_some_iff.1 HRB.out).1).trans HRB.out)
  replace HR := Lib.hid ((k6.block _ (Array.getElem?_eq_some_iff.1 HR.out).1).trans HR.out)
  replace HGV1 := Lib.hid ((k6.block _ (Array.getElem?_eq_some_iff.1 HGV1.out).1).trans HGV1.out)
  replace HU0 := Lib.hid (HU0.out.below k6)
  clear k6
  go_upto_region 7 with fail
  have hv := heap_alloc_new w6 (.cells #[.int .u64 T0, .int .u64 T1, .int .u64 T2, .int .u64 T3] 30)
  have kv := grew w6 (.cells #[.int .u64 T0, .int .u64 T1, .int .u64 T2, .int .u64 T3] 30)
  obtain ⟨GV2, hGV2e⟩ : ∃ n, n = w6.heap.size := ⟨_, rfl⟩
  rw [← hGV2e] at hv ⊢
  generalize w6.alloc _ = w7 at hv kv ⊢
  clear hGV2e
  replace HJ := Lib.hid (grows HJ.out kv)
  replace HRA := Lib.hid ((kv.block _ (Array.getElem?_eq_some_iff.1 HRA.out).1).trans HRA.out)
  replace HRB := Lib.hid ((kv.block _ (Array.getElem?_eq_some_iff.1 HRB.out).1).trans HRB.out)
  replace HR := Lib.hid ((kv.block _ (Array.getElem?_eq_some_iff.1 HR.out).1).trans HR.out)
  replace HGV1 := Lib.hid ((kv.block _ (Array.getElem?_eq_some_iff.1 HGV1.out).1).trans HGV1.out)
  replace HU0 := Lib.hid (HU0.out.below kv)
  clear kv
  have HGV2 := Lib.hid hv
  clear hv
  go_wp2_with fail
  with_reducible refine (HG.out _ HJ.out).mono ?_
  rintro _ w8 ⟨⟨u1, rfl, hu⟩, k8⟩
  obtain ⟨xa, xc, rfl, _, _⟩ := hu.slice
  replace HJ := Lib.hid (grows HJ.out k8)
  replace HRA := Lib.hid ((k8.block _ (Array.getElem?_eq_some_iff.1 HRA.out).1).trans HRA.out)
  replace HRB := Lib.hid ((k8.block _ (Array.getElem?_eq_some_iff.1 HRB.out).1).trans HRB.out)
  replace HR := Lib.hid ((k8.block _ (Array.getElem?_eq_some_iff.1 HR.out).1).trans HR.out)
  replace HGV1 := Lib.hid ((k8.block _ (Array.getElem?_eq_some_iff.1 HGV1.out).1).trans HGV1.out)
  replace HGV2 := Lib.hid ((k8.block _ (Array.getElem?_eq_some_iff.1 HGV2.out).1).trans HGV2.out)
  replace HU0 := Lib.hid (HU0.out.below k8)
  clear k8
  have HU1 := Lib.hid hu
  clear hu
  go_upto_region 8 with fail
  have hv := heap_alloc_new w8 (box9 PX X0 X1 X2 X3 K1 K2 K3 (.slice xa lx.length xc))
  have kv := grew w8 (box9 PX X0 X1 X2 X3 K1 K2 K3 (.slice xa lx.length xc))
  obtain ⟨GX1, hGX1e⟩ : ∃ n, n = w8.heap.size := ⟨_, rfl⟩
  rw [← hGX1e] at hv ⊢
  unfold box9 at hv kv
  generalize w8.alloc _ = w9 at hv kv ⊢
  clear hGX1e
  replace HJ := Lib.hid (grows HJ.out kv)
  replace HRA := Lib.hid ((kv.block _ (Array.getElem?_eq_some_iff.1 HRA.out).1).trans HRA.out)
  replace HRB := Lib.hid ((kv.block _ (Array.getElem?_eq_some_iff.1 HRB.out).1).trans HRB.out)
  replace HR := Lib.hid ((kv.block _ (Array.getElem?_eq_some_iff.1 HR.out).1).trans HR.out)
  replace HGV1 := Lib.hid ((kv.block _ (Array.getElem?_eq_some_iff.1 HGV1.out).1).trans HGV1.out)
  replace HGV2 := Lib.hid ((kv.block _ (Array.getElem?_eq_some_iff.1 HGV2.out).1).trans HGV2.out)
  replace HU0 := Lib.hid (HU0.out.below kv)
  replace HU1 := Lib.hid (HU1.out.below kv)
  clear kv
  have HGX1 := Lib.hid hv
  clear hv
  go_wp2_with fail
  with_reducible refine (HGr.out _).mono ?_
  rintro _ w10 ⟨⟨u2, rfl, hu⟩, k10⟩
  obtain ⟨ya, yc, rfl, _, _⟩ := hu.slice
  replace HJ := Lib.hid (grows HJ.out k10)
  replace HRA := Lib.hid ((k10.block _ (Array.getElem?_eq_some_iff.1 HRA.out).1).trans HRA.out)
  replace HRB := Lib.hid ((k10.block _ (Array.getElem?_eq_some_iff.1 HRB.out).1).trans HRB.out)
  replace HR := Lib.hid ((k10.block _ (Array.getElem?_eq_some_iff.1 HR.out).1).trans HR.out)
  replace HGV1 := Lib.hid ((k10.block _ (Array.getElem?_eq_some_iff.1 HGV1.out).1).trans HGV1.out)
  replace HGV2 := Lib.hid ((k10.block _ (Array.getElem?_eq_some_iff.1 HGV2.out).1).trans HGV2.out)
  replace HGX1 := Lib.hid ((k10.block _ (Array.getElem?_eq_some_iff.1 HGX1.out).1).trans HGX1.out)
  replace HU0 := Lib.hid (HU0.out.below k10)
  replace HU1 := Lib.hid (HU1.out.below k10)
  clear k10
  have HU2 := Lib.hid hu
  clear hu
  go_upto_region 9 with fail
  have hv := heap_alloc_new w10 (box9R PX X0 X1 X2 X3 K1 K2 K3 (.slice ya lx.length yc))
  have kv := grew w10 (box9R PX X0 X1 X2 X3 K1 K2 K3 (.slice ya lx.length yc))
  obtain ⟨GX2, hGX2e⟩ : ∃ n, n = w10.heap.size := ⟨_, rfl⟩
  rw [← hGX2e] at hv ⊢
  unfold box9R at hv kv
  generalize w10.alloc _ = w11 at hv kv ⊢
  clear hGX2e
  replace HJ := Lib.hid (grows HJ.out kv)
  replace HRA := Lib.hid ((kv.block _ (Array.getElem?_eq_some_iff.1 HRA.out).1).trans HRA.out)
  replace HRB := Lib.hid ((kv.block _ (Array.getElem?_eq_some_iff.1 HRB.out).1).trans HRB.out)
  replace HR := Lib.hid ((kv.block _ (Array.getElem?_eq_some_iff.1 HR.out).1).trans HR.out)
  replace HGV1 := Lib.hid ((kv.block _ (Array.getElem?_eq_some_iff.1 HGV1.out).1).trans HGV1.out)
  replace HGV2 := Lib.hid ((kv.block _ (Array.getElem?_eq_some_iff.1 HGV2.out).1).trans HGV2.out)
  replace HGX1 := Lib.hid ((kv.block _ (Array.getElem?_eq_some_iff.1 HGX1.out).1).trans HGX1.out)
  replace HU0 := Lib.hid (HU0.out.below kv)
  replace HU1 := Lib.hid (HU1.out.below kv)
  replace HU2 := Lib.hid (HU2.out.below kv)
  clear kv
  have HGX2 := Lib.hid hv
  clear hv
  go_wp2_with fail
  with_reducible refine (HP.out _ HJ.out).mono ?_
  rintro _ w12 ⟨⟨u4, rfl, hu⟩, k12⟩
  obtain ⟨pa, pc, rfl, _, _⟩ := hu.slice
  replace HJ := Lib.hid (grows HJ.out k12)
  replace HRA := Lib.hid ((k12.block _ (Array.getElem?_eq_some_iff.1 HRA.out).1).trans HRA.out)
  replace HRB := Lib.hid ((k12.block _ (Array.getElem?_eq_some_iff.1 HRB.out).1).trans HRB.out)
  replace HR := Lib.hid ((k12.block _ (Array.getElem?_eq_some_iff.1 HR.out).1).trans HR.out)
  replace HGV1 := Lib.hid ((k12.block _ (Array.getElem?_eq_some_iff.1 HGV1.out).1).trans HGV1.out)
  replace HGV2 := Lib.hid ((k12.block _ (Array.getElem?_eq_some_iff.1 HGV2.out).1).trans HGV2.out)
  replace HGX1 := Lib.hid ((k12.block _ (Array.getElem?_eq_some_iff.1 HGX1.out).1).trans HGX1.out)
  replace HGX2 := Lib.hid ((k12.block _ (Array.getElem?_eq_some_iff.1 HGX2.out).1).trans HGX2.out)
  replace HU0 := Lib.hid (HU0.out.below k12)
  replace HU1 := Lib.hid (HU1.out.below k12)
  replace HU2 := Lib.hid (HU2.out.below k12)
  clear k12
  have HU4 := Lib.hid hu
  clear hu
  go_upto_region 10 with fail
  have hv := heap_alloc_new w12 (box9 PY Y0 Y1 Y2 Y3 L1 L2 L3 (.slice pa ly.length pc))
  have kv := grew w12 (box9 PY Y0 Y1 Y2 Y3 L1 L2 L3 (.slice pa ly.length pc))
  obtain ⟨GY1, hGY1e⟩ : ∃ n, n = w12.heap.size := ⟨_, rfl⟩
  rw [← hGY1e] at hv ⊢
  unfold box9 at hv kv
  generalize w12.alloc _ = w13 at hv kv ⊢
  clear hGY1e
  replace HJ := Lib.hid (grows HJ.out kv)
  replace HRA := Lib.hid ((kv.block _ (Array.getElem?_eq_some_iff.1 HRA.out).1).trans HRA.out)
  replace HRB := Lib.hid ((kv.block _ (Array.getElem?_eq_some_iff.1 HRB.out).1).trans HRB.out)
  replace HR := Lib.hid ((kv.block _ (Array.getElem?_eq_some_iff.1 HR.out).1).trans HR.out)
  replace HGV1 := Lib.hid ((kv.block _ (Array.getElem?_eq_some_iff.1 HGV1.out).1).trans HGV1.out)
  replace HGV2 := Lib.hid ((kv.block _ (Array.getElem?_eq_some_iff.1 HGV2.out).1).trans HGV2.out)
  replace HGX1 := Lib.hid ((kv.block _ (Array.getElem?_eq_some_iff.1 HGX1.out).1).trans HGX1.out)
  replace HGX2 := Lib.hid ((kv.block _ (Array.getElem?_eq_some_iff.1 HGX2.out).1).trans HGX2.out)
  replace HU0 := Lib.hid (HU0.out.below kv)
  replace HU1 := Lib.hid (HU1.out.below kv)
  replace HU2 := Lib.hid (HU2.out.below kv)
  replace HU4 := Lib.hid (HU4.out.below kv)
  clear kv
  have HGY1 := Lib.hid hv
  clear hv
  go_wp2_with fail
  with_reducible refine (HPr.out _ HJ.out).mono ?_
  rintro _ w14 ⟨⟨u5, rfl, hu⟩, k14⟩
  obtain ⟨qa, qc, rfl, _, _⟩ := hu.slice
  replace HJ := Lib.hid (grows HJ.out k14)
  replace HRA := Lib.hid ((k14.block _ (Array.getElem?_eq_some_iff.1 HRA.out).1).trans HRA.out)
  replace HRB := Lib.hid ((k14.block _ (Array.getElem?_eq_some_iff.1 HRB.out).1).trans HRB.out)
  replace HR := Lib.hid ((k14.block _ (Array.getElem?_eq_some_iff.1 HR.out).1).trans HR.out)
  replace HGV1 := Lib.hid ((k14.block _ (Array.getElem?_eq_some_iff.1 HGV1.out).1).trans HGV1.out)
  replace HGV2 := Lib.hid ((k14.block _ (Array.getElem?_eq_some_iff.1 HGV2.out).1).trans HGV2.out)
  replace HGX1 := Lib.hid ((k14.block _ (Array.getElem?_eq_some_iff.1 HGX1.out).1).trans HGX1.out)
  replace HGX2 := Lib.hid ((k14.block _ (Array.getElem?_eq_some_iff.1 HGX2.out).1).trans HGX2.out)
  replace HGY1 := Lib.hid ((k14.block _ (Array.getElem?_eq_some_iff.1 HGY1.out).1).trans HGY1.out)
  replace HU0 := Lib.hid (HU0.out.below k14)
  replace HU1 := Lib.hid (HU1.out.below k14)
  replace HU2 := Lib.hid (HU2.out.below k14)
  replace HU4 := Lib.hid (HU4.out.below k14)
  clear k14
  have HU5 := Lib.hid hu
  clear hu
  go_upto_region 11 with fail
  have hv := heap_alloc_new w14 (box9R PY Y0 Y1 Y2 Y3 L1 L2 L3 (.slice qa ly.length qc))
  have kv := grew w14 (box9R PY Y0 Y1 Y2 Y3 L1 L2 L3 (.slice qa ly.length qc))
  obtain ⟨GY2, hGY2e⟩ : ∃ n, n = w14.heap.size := ⟨_, rfl⟩
  rw [← hGY2e] at hv ⊢
  unfold box9R at hv kv
  generalize w14.alloc _ = w15 at hv kv ⊢
  clear hGY2e
  replace HJ := Lib.hid (grows HJ.out kv)
  replace HRA := Lib.hid ((kv.block _ (Array.getElem?_eq_some_iff.1 HRA.out).1).trans HRA.out)
  replace HRB := Lib.hid ((kv.block _ (Array.getElem?_eq_some_iff.1 HRB.out).1).trans HRB.out)
  replace HR := Lib.hid ((kv.block _ (Array.getElem?_eq_some_iff.1 HR.out).1).trans HR.out)
  replace HGV1 := Lib.hid ((kv.block _ (Array.getElem?_eq_some_iff.1 HGV1.out).1).trans HGV1.out)
  replace HGV2 := Lib.hid ((kv.block _ (Array.getElem?_eq_some_iff.1 HGV2.out).1).trans HGV2.out)
  replace HGX1 := Lib.hid ((kv.block _ (Array.getElem?_eq_some_iff.1 HGX1.out).1).trans HGX1.out)
  replace HGX2 := Lib.hid ((kv.block _ (Array.getElem?_eq_some_iff.1 HGX2.out).1).trans HGX2.out)
  replace HGY1 := Lib.hid ((kv.block _ (Array.getElem?_eq_some_iff.1 HGY1.out).1).trans HGY1.out)
  replace HU0 := Lib.hid (HU0.out.below kv)
  replace HU1 := Lib.hid (HU1.out.below kv)
  replace HU2 := Lib.hid (HU2.out.below kv)
  replace HU4 := Lib.hid (HU4.out.below kv)
  replace HU5 := Lib.hid (HU5.out.below kv)
  clear kv
  have HGY2 := Lib.hid hv
  clear hv
  clear HX HRa HTo HTr HG HGr HP HPr
  have q0 : Below w15.heap.size w15 w15.drew := (Below.refl _ _).drew
  refine wp_region_held_drew (S := fun z => Below w15.heap.size w15 z) (by kernel_rfl) q0 (fun hHeld => ?_)
  (refine Step.take (i := 0) (d := some 66) (v := .agg #[.int .u64 T0, .int .u64 T1, .int .u64 T2, .int .u64 T3]) (by kernel_rfl) (by kernel_rfl) (by kernel_rfl) (by kernel_rfl) (by kernel_rfl) (fun _ _ _ h => h) hHeld (fun zz hSw => load_vecV (x := .tmp 13) (b := GV1) (by kernel_rfl) (by kernel_rfl) ((hSw.block _ (Array.getElem?_eq_some_iff.1 HGV1.out).1).trans HGV1.out)) ?_)
  (refine Step.take (i := 2) (d := some 68) (v := .agg #[.int .u64 T0, .int .u64 T1, .int .u64 T2, .int .u64 T3]) (by kernel_rfl) (by kernel_rfl) (by kernel_rfl) (by kernel_rfl) (by kernel_rfl) (fun _ _ _ h => h) hHeld (fun zz hSw => load_vecR (x := .tmp 15) (b := GV2) (by kernel_rfl) (by kernel_rfl) ((hSw.block _ (Array.getElem?_eq_some_iff.1 HGV2.out).1).trans HGV2.out)) ?_)
  (refine Step.call (i := 1) (d := some 67) 17 #[.agg #[.int .u64 T0, .int .u64 T1, .int .u64 T2, .int .u64 T3]] (by kernel_rfl) (by kernel_rfl) (by kernel_rfl) (by kernel_rfl) ?_; clear hHeld; refine (HV.out _).mono ?_; rintro _ z1 ⟨rfl, kb⟩; have q1 := q0.trans (kb.mono q0.size); clear kb; refine ⟨_, rfl, q1, fun hHeld => ?_⟩)
  (refine Step.take (i := 3) (d := some 69) (v := .bool false) (by kernel_rfl) (by kernel_rfl) (by kernel_rfl) (by kernel_rfl) (by kernel_rfl) (fun _ _ _ h => h) hHeld (fun zz hSw => neqV_run T0 T1 T2 T3 (x := .tmp 67) (y := .tmp 68) (t := 30) (by kernel_rfl) (by kernel_rfl) (by kernel_rfl)) ?_)
  (refine Step.take (i := 4) (d := some 70) (v := .bool false) (by kernel_rfl) (by kernel_rfl) (by kernel_rfl) (by kernel_rfl) (by kernel_rfl) (fun _ _ _ h => h) hHeld (fun zz hSw => by kernel_rfl) ?_)
  (refine Step.take (i := 5) (d := some 71) (v := .bool ok) (by kernel_rfl) (by kernel_rfl) (by kernel_rfl) (by kernel_rfl) (by kernel_rfl) (fun _ _ _ h => h) hHeld (fun zz hSw => by kernel_rfl) ?_)
  (refine Step.take (i := 6) (d := some 72) (v := .bool ok) (by kernel_rfl) (by kernel_rfl) (by kernel_rfl) (by kernel_rfl) (by kernel_rfl) (fun _ _ _ h => h) hHeld (fun zz hSw => by kernel_rfl) ?_)
  (refine Step.take (i := 7) (d := some 73) (v := .bool false) (by kernel_rfl) (by kernel_rfl) (by kernel_rfl) (by kernel_rfl) (by kernel_rfl) (fun _ _ _ h => h) hHeld (fun zz hSw => neqB_run ok (x := .tmp 71) (y := .tmp 72) (t := 4) (by kernel_rfl) (by kernel_rfl) (by kernel_rfl)) ?_)
  (refine Step.take (i := 8) (d := some 74) (v := .bool false) (by kernel_rfl) (by kernel_rfl) (by kernel_rfl) (by kernel_rfl) (by kernel_rfl) (fun _ _ _ h => h) hHeld (fun zz hSw => by kernel_rfl) ?_)
  (refine Step.take (i := 9) (d := some 75) (v := .bool false) (by kernel_rfl) (by kernel_rfl) (by kernel_rfl) (by kernel_rfl) (by kernel_rfl) (fun _ _ _ h => h) hHeld (fun zz hSw => by kernel_rfl) ?_)
  (refine Step.take (i := 10) (d := some 76) (v := .agg #[.string PX, .int .u64 X0, .int .u64 X1, .int .u64 X2, .int .u64 X3, .int .i64 K1, .int .i64 K2, .int .i64 K3, .slice xa lx.length xc]) (by kernel_rfl) (by kernel_rfl) (by kernel_rfl) (by kernel_rfl) (by kernel_rfl) (fun _ _ _ h => h) hHeld (fun zz hSw => load_jobS (x := .tmp 17) (b := GX1) (by kernel_rfl) (by kernel_rfl) ((hSw.block _ (Array.getElem?_eq_some_iff.1 HGX1.out).1).trans HGX1.out)) ?_)
  (refine Step.take (i := 12) (d := some 78) (v := .agg #[.string PX, .int .u64 X0, .int .u64 X1, .int .u64 X2, .int .u64 X3, .int .i64 K1, .int .i64 K2, .int .i64 K3, .slice ya lx.length yc]) (by kernel_rfl) (by kernel_rfl) (by kernel_rfl) (by kernel_rfl) (by kernel_rfl) (fun _ _ _ h => h) hHeld (fun zz hSw => load_jobR (x := .tmp 20) (b := GX2) (by kernel_rfl) (by kernel_rfl) ((hSw.block _ (Array.getElem?_eq_some_iff.1 HGX2.out).1).trans HGX2.out)) ?_)
  (refine Step.call (i := 11) (d := some 77) 10 #[.agg #[.string PX, .int .u64 X0, .int .u64 X1, .int .u64 X2, .int .u64 X3, .int .i64 K1, .int .i64 K2, .int .i64 K3, .slice xa lx.length xc]] (by kernel_rfl) (by kernel_rfl) (by kernel_rfl) (by kernel_rfl) ?_; clear hHeld; refine (HRx.out _ _ _ HU1.out q1).mono ?_; rintro _ z11 ⟨⟨u3, rfl, hu3⟩, kb⟩; have q11 := q1.trans (kb.mono q1.size); clear kb; refine ⟨_, rfl, q11, fun hHeld => ?_⟩)
  (refine Step.call (i := 13) (d := some 79) 18 #[.agg #[.string PX, .int .u64 X0, .int .u64 X1, .int .u64 X2, .int .u64 X3, .int .i64 K1, .int .i64 K2, .int .i64 K3, u3], .agg #[.string PX, .int .u64 X0, .int .u64 X1, .int .u64 X2, .int .u64 X3, .int .i64 K1, .int .i64 K2, .int .i64 K3, .slice ya lx.length yc]] (by kernel_rfl) (by kernel_rfl) (by kernel_rfl) (by kernel_rfl) ?_; clear hHeld; refine (HSx.out _ _ _ hu3 (HU2.out.below q11)).mono ?_; rintro _ z13 ⟨rfl, kb⟩; have q13 := q11.trans (kb.mono q11.size); clear kb; refine ⟨_, rfl, q13, fun hHeld => ?_⟩)
  (refine Step.take (i := 14) (d := some 80) (v := .bool false) (by kernel_rfl) (by kernel_rfl) (by kernel_rfl) (by kernel_rfl) (by kernel_rfl) (fun _ _ _ h => h) hHeld (fun zz hSw => by kernel_rfl) ?_)
  (refine Step.take (i := 15) (d := some 81) (v := .bool false) (by kernel_rfl) (by kernel_rfl) (by kernel_rfl) (by kernel_rfl) (by kernel_rfl) (fun _ _ _ h => h) hHeld (fun zz hSw => by kernel_rfl) ?_)
  (refine Step.take (i := 16) (d := some 82) (v := .bool false) (by kernel_rfl) (by kernel_rfl) (by kernel_rfl) (by kernel_rfl) (by kernel_rfl) (fun _ _ _ h => h) hHeld (fun zz hSw => by kernel_rfl) ?_)
  (refine Step.take (i := 17) (d := some 83) (v := .int .i64 q) (by kernel_rfl) (by kernel_rfl) (by kernel_rfl) (by kernel_rfl) (by kernel_rfl) (fun _ _ _ h => h) hHeld (fun zz hSw => by kernel_rfl) ?_)
  (refine Step.take (i := 18) (d := some 84) (v := .int .i64 q) (by kernel_rfl) (by kernel_rfl) (by kernel_rfl) (by kernel_rfl) (by kernel_rfl) (fun _ _ _ h => h) hHeld (fun zz hSw => by kernel_rfl) ?_)
  (refine Step.take (i := 19) (d := some 85) (v := .bool false) (by kernel_rfl) (by kernel_rfl) (by kernel_rfl) (by kernel_rfl) (by kernel_rfl) (fun _ _ _ h => h) hHeld (fun zz hSw => neqI_run q (x := .tmp 83) (y := .tmp 84) (t := 3) (by kernel_rfl) (by kernel_rfl) (by kernel_rfl)) ?_)
  (refine Step.take (i := 20) (d := some 86) (v := .bool false) (by kernel_rfl) (by kernel_rfl) (by kernel_rfl) (by kernel_rfl) (by kernel_rfl) (fun _ _ _ h => h) hHeld (fun zz hSw => by kernel_rfl) ?_)
  (refine Step.take (i := 21) (d := some 87) (v := .bool false) (by kernel_rfl) (by kernel_rfl) (by kernel_rfl) (by kernel_rfl) (by kernel_rfl) (fun _ _ _ h => h) hHeld (fun zz hSw => by kernel_rfl) ?_)
  (refine Step.take (i := 22) (d := some 88) (v := .bool g) (by kernel_rfl) (by kernel_rfl) (by kernel_rfl) (by kernel_rfl) (by kernel_rfl) (fun _ _ _ h => h) hHeld (fun zz hSw => by kernel_rfl) ?_)
  (refine Step.take (i := 23) (d := some 89) (v := .bool g) (by kernel_rfl) (by kernel_rfl) (by kernel_rfl) (by kernel_rfl) (by kernel_rfl) (fun _ _ _ h => h) hHeld (fun zz hSw => by kernel_rfl) ?_)
  (refine Step.take (i := 24) (d := some 90) (v := .bool false) (by kernel_rfl) (by kernel_rfl) (by kernel_rfl) (by kernel_rfl) (by kernel_rfl) (fun _ _ _ h => h) hHeld (fun zz hSw => neqB_run g (x := .tmp 88) (y := .tmp 89) (t := 4) (by kernel_rfl) (by kernel_rfl) (by kernel_rfl)) ?_)
  (refine Step.take (i := 25) (d := some 91) (v := .bool false) (by kernel_rfl) (by kernel_rfl) (by kernel_rfl) (by kernel_rfl) (by kernel_rfl) (fun _ _ _ h => h) hHeld (fun zz hSw => by kernel_rfl) ?_)
  (refine Step.take (i := 26) (d := some 92) (v := .bool false) (by kernel_rfl) (by kernel_rfl) (by kernel_rfl) (by kernel_rfl) (by kernel_rfl) (fun _ _ _ h => h) hHeld (fun zz hSw => by kernel_rfl) ?_)
  (refine Step.take (i := 27) (d := some 93) (v := .agg #[.string PY, .int .u64 Y0, .int .u64 Y1, .int .u64 Y2, .int .u64 Y3, .int .i64 L1, .int .i64 L2, .int .i64 L3, .slice pa ly.length pc]) (by kernel_rfl) (by kernel_rfl) (by kernel_rfl) (by kernel_rfl) (by kernel_rfl) (fun _ _ _ h => h) hHeld (fun zz hSw => load_jobS (x := .tmp 23) (b := GY1) (by kernel_rfl) (by kernel_rfl) ((hSw.block _ (Array.getElem?_eq_some_iff.1 HGY1.out).1).trans HGY1.out)) ?_)
  (refine Step.take (i := 29) (d := some 95) (v := .agg #[.string PY, .int .u64 Y0, .int .u64 Y1, .int .u64 Y2, .int .u64 Y3, .int .i64 L1, .int .i64 L2, .int .i64 L3, .slice qa ly.length qc]) (by kernel_rfl) (by kernel_rfl) (by kernel_rfl) (by kernel_rfl) (by kernel_rfl) (fun _ _ _ h => h) hHeld (fun zz hSw => load_jobR (x := .tmp 25) (b := GY2) (by kernel_rfl) (by kernel_rfl) ((hSw.block _ (Array.getElem?_eq_some_iff.1 HGY2.out).1).trans HGY2.out)) ?_)
  (refine Step.call (i := 28) (d := some 94) 10 #[.agg #[.string PY, .int .u64 Y0, .int .u64 Y1, .int .u64 Y2, .int .u64 Y3, .int .i64 L1, .int .i64 L2, .int .i64 L3, .slice pa ly.length pc]] (by kernel_rfl) (by kernel_rfl) (by kernel_rfl) (by kernel_rfl) ?_; clear hHeld; refine (HRy.out _ _ _ HU4.out q13).mono ?_; rintro _ z28 ⟨⟨u6, rfl, hu6⟩, kb⟩; have q28 := q13.trans (kb.mono q13.size); clear kb; refine ⟨_, rfl, q28, fun hHeld => ?_⟩)
  (refine Step.call (i := 30) (d := some 96) 18 #[.agg #[.string PY, .int .u64 Y0, .int .u64 Y1, .int .u64 Y2, .int .u64 Y3, .int .i64 L1, .int .i64 L2, .int .i64 L3, u6], .agg #[.string PY, .int .u64 Y0, .int .u64 Y1, .int .u64 Y2, .int .u64 Y3, .int .i64 L1, .int .i64 L2, .int .i64 L3, .slice qa ly.length qc]] (by kernel_rfl) (by kernel_rfl) (by kernel_rfl) (by kernel_rfl) ?_; clear hHeld; refine (HSy.out _ _ _ hu6 (HU5.out.below q28)).mono ?_; rintro _ z30 ⟨rfl, kb⟩; have q30 := q28.trans (kb.mono q28.size); clear kb; refine ⟨_, rfl, q30, fun hHeld => ?_⟩)
  (refine Step.take (i := 31) (d := some 97) (v := .bool false) (by kernel_rfl) (by kernel_rfl) (by kernel_rfl) (by kernel_rfl) (by kernel_rfl) (fun _ _ _ h => h) hHeld (fun zz hSw => by kernel_rfl) ?_)
  (refine Step.take (i := 32) (d := some 98) (v := .bool false) (by kernel_rfl) (by kernel_rfl) (by kernel_rfl) (by kernel_rfl) (by kernel_rfl) (fun _ _ _ h => h) hHeld (fun zz hSw => by kernel_rfl) ?_)
  (refine Step.take (i := 33) (d := some 99) (v := .bool false) (by kernel_rfl) (by kernel_rfl) (by kernel_rfl) (by kernel_rfl) (by kernel_rfl) (fun _ _ _ h => h) hHeld (fun zz hSw => by kernel_rfl) ?_)
  (refine Step.take (i := 34) (d := some 100) (v := .bool h) (by kernel_rfl) (by kernel_rfl) (by kernel_rfl) (by kernel_rfl) (by kernel_rfl) (fun _ _ _ h => h) hHeld (fun zz hSw => by kernel_rfl) ?_)
  (refine Step.take (i := 35) (d := some 101) (v := .bool h) (by kernel_rfl) (by kernel_rfl) (by kernel_rfl) (by kernel_rfl) (by kernel_rfl) (fun _ _ _ h => h) hHeld (fun zz hSw => by kernel_rfl) ?_)
  (refine Step.take (i := 36) (d := some 102) (v := .bool false) (by kernel_rfl) (by kernel_rfl) (by kernel_rfl) (by kernel_rfl) (by kernel_rfl) (fun _ _ _ h => h) hHeld (fun zz hSw => neqB_run h (x := .tmp 100) (y := .tmp 101) (t := 4) (by kernel_rfl) (by kernel_rfl) (by kernel_rfl)) ?_)
  (refine Step.take (i := 37) (d := some 103) (v := .bool false) (by kernel_rfl) (by kernel_rfl) (by kernel_rfl) (by kernel_rfl) (by kernel_rfl) (fun _ _ _ h => h) hHeld (fun zz hSw => by kernel_rfl) ?_)
  refine wpAnyH_done (by kernel_rfl) ?_ _
  simp only [Act.put, List.setIfInBounds_toArray, List.set_cons_succ, List.set_cons_zero]
  replace HJ := Lib.hid (grows HJ.out q30)
  replace HRA := Lib.hid ((q30.block _ (Array.getElem?_eq_some_iff.1 HRA.out).1).trans HRA.out)
  replace HRB := Lib.hid ((q30.block _ (Array.getElem?_eq_some_iff.1 HRB.out).1).trans HRB.out)
  replace HR := Lib.hid ((q30.block _ (Array.getElem?_eq_some_iff.1 HR.out).1).trans HR.out)
  replace HU0 := Lib.hid (HU0.out.below q30)
  clear hHeld hu3 hu6 q0 q1 q11 q13 q28 q30
  clear HGV1 HGV2 HGX1 HGX2 HGY1 HGY2 HU1 HU2 HU4 HU5 HRx HRy HSx HSy HV
  go_upto_region 13 with fail
  have r0 : Below z30.heap.size z30 z30.drew := (Below.refl _ _).drew
  refine wp_region_held_drew (S := fun z => Below z30.heap.size z30 z) (by kernel_rfl) r0 (fun hHeld => ?_)
  (refine Step.take (i := 0) (d := some 104) (v := .bool true) (by kernel_rfl) (by kernel_rfl) (by kernel_rfl) (by kernel_rfl) (by kernel_rfl) (fun _ _ _ h => h) hHeld (fun zz hSw => by kernel_rfl) ?_)
  (refine Step.take (i := 1) (d := some 105) (v := .bool true) (by kernel_rfl) (by kernel_rfl) (by kernel_rfl) (by kernel_rfl) (by kernel_rfl) (fun _ _ _ h => h) hHeld (fun zz hSw => by kernel_rfl) ?_)
  (refine Step.take (i := 2) (d := some 106) (v := .agg #[.string P, .int .u64 A0, .int .u64 A1, .int .u64 A2, .int .u64 A3, .int .i64 N1, .int .i64 N2, .int .i64 N3, .slice sa sn sc]) (by kernel_rfl) (by kernel_rfl) (by kernel_rfl) (by kernel_rfl) (by kernel_rfl) (fun _ _ _ h => h) hHeld (fun zz hSw => load_jobS (x := .tmp 5) (b := RA) (by kernel_rfl) (by kernel_rfl) ((hSw.block _ (Array.getElem?_eq_some_iff.1 HRA.out).1).trans HRA.out)) ?_)
  (refine Step.take (i := 4) (d := some 108) (v := .agg #[.string P, .int .u64 A0, .int .u64 A1, .int .u64 A2, .int .u64 A3, .int .i64 N1, .int .i64 N2, .int .i64 N3, .slice ra la.length rc]) (by kernel_rfl) (by kernel_rfl) (by kernel_rfl) (by kernel_rfl) (by kernel_rfl) (fun _ _ _ h => h) hHeld (fun zz hSw => load_jobR (x := .tmp 12) (b := R) (by kernel_rfl) (by kernel_rfl) ((hSw.block _ (Array.getElem?_eq_some_iff.1 HR.out).1).trans HR.out)) ?_)
  (refine Step.call (i := 3) (d := some 107) 19 #[.agg #[.string P, .int .u64 A0, .int .u64 A1, .int .u64 A2, .int .u64 A3, .int .i64 N1, .int .i64 N2, .int .i64 N3, .slice sa sn sc]] (by kernel_rfl) (by kernel_rfl) (by kernel_rfl) (by kernel_rfl) ?_; clear hHeld; refine (HC.out _ (grows HJ.out r0)).mono ?_; rintro _ y3 ⟨rfl, kb⟩; have r3 := r0.trans (kb.mono r0.size); clear kb; refine ⟨_, rfl, r3, fun hHeld => ?_⟩)
  (refine Step.call (i := 5) (d := some 109) 20 #[.agg #[.string P, .int .u64 A0, .int .u64 A1, .int .u64 A2, .int .u64 A3, .int .i64 N1, .int .i64 N2, .int .i64 N3, .slice ra la.length rc]] (by kernel_rfl) (by kernel_rfl) (by kernel_rfl) (by kernel_rfl) ?_; clear hHeld; refine (HCr.out _ _ (HU0.out.below r3)).mono ?_; rintro _ y5 ⟨rfl, kb⟩; have r5 := r3.trans (kb.mono r3.size); clear kb; refine ⟨_, rfl, r5, fun hHeld => ?_⟩)
  (refine Step.take (i := 6) (d := some 110) (v := .bool true) (by kernel_rfl) (by kernel_rfl) (by kernel_rfl) (by kernel_rfl) (by kernel_rfl) (fun _ _ _ h => h) hHeld (fun zz hSw => eqlI_run c (x := .tmp 107) (y := .tmp 109) (t := 3) (by kernel_rfl) (by kernel_rfl) (by kernel_rfl)) ?_)
  (refine Step.take (i := 7) (d := some 111) (v := .bool true) (by kernel_rfl) (by kernel_rfl) (by kernel_rfl) (by kernel_rfl) (by kernel_rfl) (fun _ _ _ h => h) hHeld (fun zz hSw => by kernel_rfl) ?_)
  (refine Step.take (i := 8) (d := some 112) (v := .bool true) (by kernel_rfl) (by kernel_rfl) (by kernel_rfl) (by kernel_rfl) (by kernel_rfl) (fun _ _ _ h => h) hHeld (fun zz hSw => by kernel_rfl) ?_)
  (refine Step.take (i := 9) (d := some 113) (v := .agg #[.string P, .int .u64 A0, .int .u64 A1, .int .u64 A2, .int .u64 A3, .int .i64 N1, .int .i64 N2, .int .i64 N3, .slice sa sn sc]) (by kernel_rfl) (by kernel_rfl) (by kernel_rfl) (by kernel_rfl) (by kernel_rfl) (fun _ _ _ h => h) hHeld (fun zz hSw => load_jobS (x := .tmp 5) (b := RA) (by kernel_rfl) (by kernel_rfl) ((hSw.block _ (Array.getElem?_eq_some_iff.1 HRA.out).1).trans HRA.out)) ?_)
  (refine Step.take (i := 10) (d := some 114) (v := .agg #[.string PB, .int .u64 B0, .int .u64 B1, .int .u64 B2, .int .u64 B3, .int .i64 M1, .int .i64 M2, .int .i64 M3, .slice ta tn tc]) (by kernel_rfl) (by kernel_rfl) (by kernel_rfl) (by kernel_rfl) (by kernel_rfl) (fun _ _ _ h => h) hHeld (fun zz hSw => load_jobS (x := .tmp 6) (b := RB) (by kernel_rfl) (by kernel_rfl) ((hSw.block _ (Array.getElem?_eq_some_iff.1 HRB.out).1).trans HRB.out)) ?_)
  (refine Step.take (i := 12) (d := some 116) (v := .agg #[.string P, .int .u64 A0, .int .u64 A1, .int .u64 A2, .int .u64 A3, .int .i64 N1, .int .i64 N2, .int .i64 N3, .slice ra la.length rc]) (by kernel_rfl) (by kernel_rfl) (by kernel_rfl) (by kernel_rfl) (by kernel_rfl) (fun _ _ _ h => h) hHeld (fun zz hSw => load_jobR (x := .tmp 12) (b := R) (by kernel_rfl) (by kernel_rfl) ((hSw.block _ (Array.getElem?_eq_some_iff.1 HR.out).1).trans HR.out)) ?_)
  (refine Step.take (i := 13) (d := some 117) (v := .agg #[.string PB, .int .u64 B0, .int .u64 B1, .int .u64 B2, .int .u64 B3, .int .i64 M1, .int .i64 M2, .int .i64 M3, .slice ta tn tc]) (by kernel_rfl) (by kernel_rfl) (by kernel_rfl) (by kernel_rfl) (by kernel_rfl) (fun _ _ _ h => h) hHeld (fun zz hSw => load_jobS (x := .tmp 6) (b := RB) (by kernel_rfl) (by kernel_rfl) ((hSw.block _ (Array.getElem?_eq_some_iff.1 HRB.out).1).trans HRB.out)) ?_)
  (refine Step.call (i := 11) (d := some 115) 21 #[.agg #[.string P, .int .u64 A0, .int .u64 A1, .int .u64 A2, .int .u64 A3, .int .i64 N1, .int .i64 N2, .int .i64 N3, .slice sa sn sc], .agg #[.string PB, .int .u64 B0, .int .u64 B1, .int .u64 B2, .int .u64 B3, .int .i64 M1, .int .i64 M2, .int .i64 M3, .slice ta tn tc]] (by kernel_rfl) (by kernel_rfl) (by kernel_rfl) (by kernel_rfl) ?_; clear hHeld; refine (HS.out _ (grows HJ.out r5)).mono ?_; rintro _ y11 ⟨rfl, kb⟩; have r11 := r5.trans (kb.mono r5.size); clear kb; refine ⟨_, rfl, r11, fun hHeld => ?_⟩)
  (refine Step.call (i := 14) (d := some 118) 10 #[.agg #[.string PB, .int .u64 B0, .int .u64 B1, .int .u64 B2, .int .u64 B3, .int .i64 M1, .int .i64 M2, .int .i64 M3, .slice ta tn tc]] (by kernel_rfl) (by kernel_rfl) (by kernel_rfl) (by kernel_rfl) ?_; clear hHeld; refine (HRb.out _ (grows HJ.out r11)).mono ?_; rintro _ y14 ⟨⟨u7, rfl, hu7⟩, kb⟩; have r14 := r11.trans (kb.mono r11.size); clear kb; refine ⟨_, rfl, r14, fun hHeld => ?_⟩)
  (refine Step.call (i := 15) (d := some 119) 18 #[.agg #[.string P, .int .u64 A0, .int .u64 A1, .int .u64 A2, .int .u64 A3, .int .i64 N1, .int .i64 N2, .int .i64 N3, .slice ra la.length rc], .agg #[.string PB, .int .u64 B0, .int .u64 B1, .int .u64 B2, .int .u64 B3, .int .i64 M1, .int .i64 M2, .int .i64 M3, u7]] (by kernel_rfl) (by kernel_rfl) (by kernel_rfl) (by kernel_rfl) ?_; clear hHeld; refine (HSr.out _ _ _ (HU0.out.below r14) hu7).mono ?_; rintro _ y15 ⟨rfl, kb⟩; have r15 := r14.trans (kb.mono r14.size); clear kb; refine ⟨_, rfl, r15, fun hHeld => ?_⟩)
  (refine Step.take (i := 16) (d := some 120) (v := .bool true) (by kernel_rfl) (by kernel_rfl) (by kernel_rfl) (by kernel_rfl) (by kernel_rfl) (fun _ _ _ h => h) hHeld (fun zz hSw => eqlB_run d (x := .tmp 115) (y := .tmp 119) (t := 4) (by kernel_rfl) (by kernel_rfl) (by kernel_rfl)) ?_)
  (refine Step.take (i := 17) (d := some 121) (v := .bool true) (by kernel_rfl) (by kernel_rfl) (by kernel_rfl) (by kernel_rfl) (by kernel_rfl) (fun _ _ _ h => h) hHeld (fun zz hSw => by kernel_rfl) ?_)
  (refine Step.take (i := 18) (d := some 122) (v := .bool true) (by kernel_rfl) (by kernel_rfl) (by kernel_rfl) (by kernel_rfl) (by kernel_rfl) (fun _ _ _ h => h) hHeld (fun zz hSw => by kernel_rfl) ?_)
  (refine Step.take (i := 19) (d := some 123) (v := .agg #[.string P, .int .u64 A0, .int .u64 A1, .int .u64 A2, .int .u64 A3, .int .i64 N1, .int .i64 N2, .int .i64 N3, .slice sa sn sc]) (by kernel_rfl) (by kernel_rfl) (by kernel_rfl) (by kernel_rfl) (by kernel_rfl) (fun _ _ _ h => h) hHeld (fun zz hSw => load_jobS (x := .tmp 5) (b := RA) (by kernel_rfl) (by kernel_rfl) ((hSw.block _ (Array.getElem?_eq_some_iff.1 HRA.out).1).trans HRA.out)) ?_)
  (refine Step.take (i := 21) (d := some 125) (v := .agg #[.string P, .int .u64 A0, .int .u64 A1, .int .u64 A2, .int .u64 A3, .int .i64 N1, .int .i64 N2, .int .i64 N3, .slice ra la.length rc]) (by kernel_rfl) (by kernel_rfl) (by kernel_rfl) (by kernel_rfl) (by kernel_rfl) (fun _ _ _ h => h) hHeld (fun zz hSw => load_jobR (x := .tmp 12) (b := R) (by kernel_rfl) (by kernel_rfl) ((hSw.block _ (Array.getElem?_eq_some_iff.1 HR.out).1).trans HR.out)) ?_)
  (refine Step.call (i := 20) (d := some 124) 22 #[.agg #[.string P, .int .u64 A0, .int .u64 A1, .int .u64 A2, .int .u64 A3, .int .i64 N1, .int .i64 N2, .int .i64 N3, .slice sa sn sc]] (by kernel_rfl) (by kernel_rfl) (by kernel_rfl) (by kernel_rfl) ?_; clear hHeld; refine (HPu.out _ (grows HJ.out r15)).mono ?_; rintro _ y20 ⟨rfl, kb⟩; have r20 := r15.trans (kb.mono r15.size); clear kb; refine ⟨_, rfl, r20, fun hHeld => ?_⟩)
  (refine Step.call (i := 22) (d := some 126) 23 #[.agg #[.string P, .int .u64 A0, .int .u64 A1, .int .u64 A2, .int .u64 A3, .int .i64 N1, .int .i64 N2, .int .i64 N3, .slice ra la.length rc]] (by kernel_rfl) (by kernel_rfl) (by kernel_rfl) (by kernel_rfl) ?_; clear hHeld; refine (HPur.out _ _ (HU0.out.below r20)).mono ?_; rintro _ y22 ⟨rfl, kb⟩; have r22 := r20.trans (kb.mono r20.size); clear kb; refine ⟨_, rfl, r22, fun hHeld => ?_⟩)
  (refine Step.take (i := 23) (d := some 127) (v := .bool true) (by kernel_rfl) (by kernel_rfl) (by kernel_rfl) (by kernel_rfl) (by kernel_rfl) (fun _ _ _ h => h) hHeld (fun zz hSw => eqlT_run z (x := .tmp 124) (y := .tmp 126) (t := 9) (by kernel_rfl) (by kernel_rfl) (by kernel_rfl)) ?_)
  (refine Step.take (i := 24) (d := some 128) (v := .bool true) (by kernel_rfl) (by kernel_rfl) (by kernel_rfl) (by kernel_rfl) (by kernel_rfl) (fun _ _ _ h => h) hHeld (fun zz hSw => by kernel_rfl) ?_)
  (refine Step.take (i := 25) (d := some 129) (v := .bool true) (by kernel_rfl) (by kernel_rfl) (by kernel_rfl) (by kernel_rfl) (by kernel_rfl) (fun _ _ _ h => h) hHeld (fun zz hSw => by kernel_rfl) ?_)
  (refine Step.take (i := 26) (d := some 130) (v := .agg #[.string P, .int .u64 A0, .int .u64 A1, .int .u64 A2, .int .u64 A3, .int .i64 N1, .int .i64 N2, .int .i64 N3, .slice sa sn sc]) (by kernel_rfl) (by kernel_rfl) (by kernel_rfl) (by kernel_rfl) (by kernel_rfl) (fun _ _ _ h => h) hHeld (fun zz hSw => load_jobS (x := .tmp 5) (b := RA) (by kernel_rfl) (by kernel_rfl) ((hSw.block _ (Array.getElem?_eq_some_iff.1 HRA.out).1).trans HRA.out)) ?_)
  (refine Step.take (i := 28) (d := some 132) (v := .agg #[.string P, .int .u64 A0, .int .u64 A1, .int .u64 A2, .int .u64 A3, .int .i64 N1, .int .i64 N2, .int .i64 N3, .slice ra la.length rc]) (by kernel_rfl) (by kernel_rfl) (by kernel_rfl) (by kernel_rfl) (by kernel_rfl) (fun _ _ _ h => h) hHeld (fun zz hSw => load_jobR (x := .tmp 12) (b := R) (by kernel_rfl) (by kernel_rfl) ((hSw.block _ (Array.getElem?_eq_some_iff.1 HR.out).1).trans HR.out)) ?_)
  (refine Step.call (i := 27) (d := some 131) 24 #[.agg #[.string P, .int .u64 A0, .int .u64 A1, .int .u64 A2, .int .u64 A3, .int .i64 N1, .int .i64 N2, .int .i64 N3, .slice sa sn sc]] (by kernel_rfl) (by kernel_rfl) (by kernel_rfl) (by kernel_rfl) ?_; clear hHeld; refine (HTx.out _ (grows HJ.out r22)).mono ?_; rintro _ y27 ⟨rfl, kb⟩; have r27 := r22.trans (kb.mono r22.size); clear kb; refine ⟨_, rfl, r27, fun hHeld => ?_⟩)
  (refine Step.call (i := 29) (d := some 133) 25 #[.agg #[.string P, .int .u64 A0, .int .u64 A1, .int .u64 A2, .int .u64 A3, .int .i64 N1, .int .i64 N2, .int .i64 N3, .slice ra la.length rc]] (by kernel_rfl) (by kernel_rfl) (by kernel_rfl) (by kernel_rfl) ?_; clear hHeld; refine (HTxr.out _ _ (HU0.out.below r27)).mono ?_; rintro _ y29 ⟨rfl, kb⟩; have r29 := r27.trans (kb.mono r27.size); clear kb; refine ⟨_, rfl, r29, fun hHeld => ?_⟩)
  (refine Step.take (i := 30) (d := some 134) (v := .bool true) (by kernel_rfl) (by kernel_rfl) (by kernel_rfl) (by kernel_rfl) (by kernel_rfl) (fun _ _ _ h => h) hHeld (fun zz hSw => eqlT_run t (x := .tmp 131) (y := .tmp 133) (t := 9) (by kernel_rfl) (by kernel_rfl) (by kernel_rfl)) ?_)
  (refine Step.take (i := 31) (d := some 135) (v := .bool true) (by kernel_rfl) (by kernel_rfl) (by kernel_rfl) (by kernel_rfl) (by kernel_rfl) (fun _ _ _ h => h) hHeld (fun zz hSw => by kernel_rfl) ?_)
  (refine Step.take (i := 32) (d := some 10) (v := .bool true) (by kernel_rfl) (by kernel_rfl) (by kernel_rfl) (by kernel_rfl) (by kernel_rfl) (fun _ _ _ h => h) hHeld (fun zz hSw => by kernel_rfl) ?_)
  refine wpAnyH_done (by kernel_rfl) ?_ _
  simp only [Act.put, List.setIfInBounds_toArray, List.set_cons_succ, List.set_cons_zero]
  have HF := Lib.hid (grows HJ.out r29)
  clear hHeld hu7 r0 r3 r5 r11 r14 r15 r20 r22 r27 r29
  go_wp2
  go_ret
  exact ⟨rfl, HF.out⟩
end Go.Proofs.YtbilkeadhflibaaGreatDoor.Job
