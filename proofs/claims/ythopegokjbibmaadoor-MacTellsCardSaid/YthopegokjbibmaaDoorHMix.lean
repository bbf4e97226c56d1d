/- What sha.mix answers of any eight words and any block: the words behind it; of memory that was there nothing turns. -/
import Derived.Test.YthopegokjbibmaaDoorHSpread
namespace Go.Proofs.YthopegokjbibmaaDoor.Sha
open Go.RowKit

/-- The package's two tables are there. -/
def Roots (w : World) : Prop := (∃ t fr, w.heap[0]? = some (.cells (words squares.list).toArray t fr)) ∧ ∃ t fr, w.heap[1]? = some (.cells (words cubes).toArray t fr)
theorem Roots.below {w w' : World} (h : Roots w) (hb : Below w.heap.size w w') : Roots w' := by
  obtain ⟨⟨t1, f1, h1⟩, t2, f2, h2⟩ := h
  exact ⟨⟨t1, f1, (hb.block _ (Array.getElem?_eq_some_iff.1 h1).1).trans h1⟩, t2, f2, (hb.block _ (Array.getElem?_eq_some_iff.1 h2).1).trans h2⟩
theorem Roots.cube {w : World} (h : Roots w) (k : Nat) (hk : k < 64) : w.cell? ⟨1, k, none⟩ = some (.int .u32 (cubes.getD k 0 : Nat)) := by
  obtain ⟨_, t, fr, h⟩ := h
  rw [cell_of_row _ _ k _ t fr h]
  simp [words, show k < cubes.length from hk]
theorem turn_z (x : Nat) (hx : x < 4294967296) (K : Int) (h0 : 0 < K) (h : K < 32) (w : World) :
    Calls Tryd.prog 70 #[.int .u32 x, .int .i64 K] w fun e w' => e = .returned (.int .u32 (rot x K.toNat : Nat)) ∧ w = w' := by
  have := turn_any x K.toNat (by omega) (by omega) hx w
  rwa [Int.toNat_of_nonneg (by omega)] at this
theorem turn_zq (x : Nat) (hx : x < 4294967296) (K : Int) (h0 : 0 < K) (h : K < 32) (w : World) :
    Calls Tryd.prog 70 #[.int .u32 x, .int .i64 K] w fun e w' => e = .returned (.int .u32 (rot x K.toNat : Nat)) ∧ w' = w := (turn_z x hx K h0 h w).mono fun _ _ ⟨h1, h2⟩ => ⟨h1, h2.symm⟩
/-- What mix has laid. -/
def Mx (w : World) (s : St) (H : Nat) (wr : World) : Prop :=
  Below w.heap.size w wr ∧ wr.heap[H]? = some (.cells #[.int .u32 s.a, .int .u32 s.b, .int .u32 s.c, .int .u32 s.d, .int .u32 s.e, .int .u32 s.f, .int .u32 s.g, .int .u32 s.h] 80) ∧
    wr.heap[H + 1 + 1]? = some (.cells #[.int .u32 0, .int .u32 0, .int .u32 0, .int .u32 0, .int .u32 0, .int .u32 0, .int .u32 0, .int .u32 0] 80)
theorem Mx.start (w : World) (s : St) (o : Obj) : Mx w s w.heap.size (((w.alloc (.cells #[.int .u32 s.a, .int .u32 s.b, .int .u32 s.c, .int .u32 s.d, .int .u32 s.e, .int .u32 s.f, .int .u32 s.g, .int .u32 s.h] 80)).alloc o).alloc (.cells #[.int .u32 0, .int .u32 0, .int .u32 0, .int .u32 0, .int .u32 0, .int .u32 0, .int .u32 0, .int .u32 0] 80)) := by
  refine ⟨((((Below.refl _ _).alloc (Nat.le_refl _) _).alloc (by simp) _).alloc (by simp; omega) _), ?_, ?_⟩
  · rw [heap_alloc_old _ _ (by simp; omega), heap_alloc_old _ _ (by simp)]
    exact heap_alloc_new _ _
  · have := heap_alloc_new ((w.alloc (.cells #[.int .u32 s.a, .int .u32 s.b, .int .u32 s.c, .int .u32 s.d, .int .u32 s.e, .int .u32 s.f, .int .u32 s.g, .int .u32 s.h] 80)).alloc o) (.cells #[.int .u32 0, .int .u32 0, .int .u32 0, .int .u32 0, .int .u32 0, .int .u32 0, .int .u32 0, .int .u32 0] 80)
    rwa [World.size_alloc, World.size_alloc] at this
theorem Mx.drewN {w : World} {s : St} {H : Nat} {wr : World} (h : Mx w s H wr) (n : Nat) : Mx w s H (wr.drewN n) := ⟨⟨h.1.os, h.1.tape, h.1.output, h.1.size, h.1.block⟩, h.2⟩
theorem Mx.below {w : World} {s : St} {H : Nat} {wr w' : World} (h : Mx w s H wr) (hb : Below wr.heap.size wr w') : Mx w s H w' :=
  ⟨h.1.trans (hb.mono h.1.size), (hb.block _ (Array.getElem?_eq_some_iff.1 h.2.1).1).trans h.2.1, (hb.block _ (Array.getElem?_eq_some_iff.1 h.2.2).1).trans h.2.2⟩
theorem big1_int (E : Nat) (h : E < 4294967296) : bits .xor .u32 (bits .xor .u32 (rot E 6 : Nat) (rot E 11 : Nat)) (rot E 25 : Nat) = ((big1 E : Nat) : Int) := by
  rw [u32_xor_nat _ _ (rot_lt _ h) (rot_lt _ h), u32_xor_nat _ _ (lt_xor (rot_lt _ h) (rot_lt _ h)) (rot_lt _ h)]; rfl
theorem big0_int (E : Nat) (h : E < 4294967296) : bits .xor .u32 (bits .xor .u32 (rot E 2 : Nat) (rot E 13 : Nat)) (rot E 22 : Nat) = ((big0 E : Nat) : Int) := by
  rw [u32_xor_nat _ _ (rot_lt _ h) (rot_lt _ h), u32_xor_nat _ _ (lt_xor (rot_lt _ h) (rot_lt _ h)) (rot_lt _ h)]; rfl
theorem cho_int (E F G : Nat) (hE : E < 4294967296) (hF : F < 4294967296) (hG : G < 4294967296) : bits .xor .u32 (bits .and .u32 (E : Int) (F : Int)) (bits .and .u32 (bits .xor .u32 IntKind.u32.max (E : Int)) (G : Int)) = ((cho E F G : Nat) : Int) := by
  have hm : IntKind.u32.max = ((4294967295 : Nat) : Int) := by decide
  have hx : 4294967295 ^^^ E < 4294967296 := lt_xor (by decide) hE
  rw [hm, u32_xor_nat _ _ (by decide) hE, u32_and_nat _ _ hE hF, u32_and_nat _ _ hx hG, u32_xor_nat _ _ (lt_and hE) (lt_and hx)]; rfl
theorem maj_int (A B C : Nat) (hA : A < 4294967296) (hB : B < 4294967296) (hC : C < 4294967296) : bits .xor .u32 (bits .xor .u32 (bits .and .u32 (A : Int) (B : Int)) (bits .and .u32 (A : Int) (C : Int))) (bits .and .u32 (B : Int) (C : Int)) = ((maj A B C : Nat) : Int) := by
  rw [u32_and_nat _ _ hA hB, u32_and_nat _ _ hA hC, u32_and_nat _ _ hB hC, u32_xor_nat _ _ (lt_and hA) (lt_and hA), u32_xor_nat _ _ (lt_xor (lt_and hA) (lt_and hA)) (lt_and hB)]; rfl
theorem all8 (a b c d e f g h : Int) : (#[.int .u32 a, .int .u32 b, .int .u32 c, .int .u32 d, .int .u32 e, .int .u32 f, .int .u32 g, .int .u32 h] : Array Value).all (·.oneCell') = true := by simp [Value.oneCell']
abbrev mixW (w : World) (s : St) (blk : Array Value) : World := ((w.alloc (.cells #[.int .u32 s.a, .int .u32 s.b, .int .u32 s.c, .int .u32 s.d, .int .u32 s.e, .int .u32 s.f, .int .u32 s.g, .int .u32 s.h] 80)).alloc (.cells blk 83)).alloc (.cells #[.int .u32 0, .int .u32 0, .int .u32 0, .int .u32 0, .int .u32 0, .int .u32 0, .int .u32 0, .int .u32 0] 80)
theorem mixW_blk (w : World) (s : St) (blk : Array Value) (m n : Nat) : (((mixW w s blk).drewN m).drewN n).heap[w.heap.size + 1]? = some (.cells blk 83) := by
  show (mixW w s blk).heap[w.heap.size + 1]? = _
  unfold mixW
  rw [heap_alloc_old _ _ (by simp)]
  have := heap_alloc_new (w.alloc (.cells #[.int .u32 s.a, .int .u32 s.b, .int .u32 s.c, .int .u32 s.d, .int .u32 s.e, .int .u32 s.f, .int .u32 s.g, .int .u32 s.h] 80)) (.cells blk 83)
  rwa [World.size_alloc] at this
set_option maxHeartbeats 1000000 in
set_option maxRecDepth 100000 in
theorem mix_any (s : St) (hs : s.ok) (b : List UInt8) (hb : b.length = 64) (w : World) (hR : Roots w) :
    Calls Tryd.prog 66 #[.agg (words s.list).toArray, .agg (vals b).toArray] w fun e w' => e = .returned (.agg (words (comp s b).list).toArray) ∧ Below w.heap.size w w' := by
  change Calls Tryd.prog 66 #[.agg #[.int .u32 s.a, .int .u32 s.b, .int .u32 s.c, .int .u32 s.d, .int .u32 s.e, .int .u32 s.f, .int .u32 s.g, .int .u32 s.h], .agg (vals b).toArray] w _
  have HR := Lib.hid hR
  clear hR
  obtain ⟨blk, hblk⟩ : ∃ c, c = (vals b).toArray := ⟨_, rfl⟩
  have hz43 : blk.size = 64 := by rw [hblk, List.size_toArray, vals_length, hb]
  have HP : Hid (∀ w, Calls Tryd.prog 69 #[.agg blk] w fun e w' => e = .returned (.agg (words (sched b 64)).toArray) ∧ Below w.heap.size w w') := Lib.hid fun w => by rw [hblk]; exact spread_any b hb w
  rw [← hblk]
  clear hblk
  go_enter Tryd.func66, Tryd.ntmps66
  go_wp2
  go_quiet (fail)
  rename Nat => n1
  go_wp2
  go_quiet (fail)
  have hM := ((Mx.start w s (.cells blk 83)).drewN n1).drewN nq
  have hB := mixW_blk w s blk n1 nq
  generalize World.drewN (World.drewN (mixW w s blk) n1) nq = w3 at hM hB ⊢
  have HM := Lib.hid hM
  clear hM
  go_wp2_with (refine load_row w3 rfl _ 83 rfl (w.heap.size + 1) _ 64 5 rfl hB Tryd.underlying83 (by rw [size43, hz43]) ?_)
  refine (HP.out _).mono ?_
  rintro e w4 ⟨rfl, hb4⟩
  have HM4 := Lib.hid (HM.out.below hb4)
  have HR4 := Lib.hid (HR.out.below HM4.out.1)
  clear HM hB HP hb4
  obtain ⟨arr, harr⟩ : ∃ c, (words (sched b 64)).toArray = c := ⟨_, rfl⟩
  have HI : Hid (∀ (k : Nat) (w : World), k < 64 → (Instr.index 96 (.agg arr) (.int .i64 (k : Int))).run Tryd.prog w = .ok (.int .u32 ((sched b 64).getD k 0 : Nat)) w) := Lib.hid fun k w hk => by
    rw [← harr]; exact index_word w 96 64 (sched b 64) k Tryd.underlying96 (sched_length b 64) hk
  rw [harr]
  clear harr
  go_wp2
  go_loopw [5, 6, 7, 8, 9, 10, 11, 12, 36] (fun va vb vc vd ve vf vg vh i wr => ∃ (k : Nat) (t : St), k ≤ 64 ∧ i = .int .i64 k ∧ t = steps cubes (sched b 64) s k ∧ va = .int .u32 t.a ∧ vb = .int .u32 t.b ∧ vc = .int .u32 t.c ∧ vd = .int .u32 t.d ∧ ve = .int .u32 t.e ∧ vf = .int .u32 t.f ∧ vg = .int .u32 t.g ∧ vh = .int .u32 t.h ∧ Mx w s w.heap.size wr ∧ Roots wr) (fun _ _ _ _ _ _ _ _ i _ => 64 - (intOf i).toNat)
  case atStart => exact ⟨0, s, Nat.zero_le _, rfl, rfl, rfl, rfl, rfl, rfl, rfl, rfl, rfl, rfl, HM4.out, HR4.out⟩
  case round =>
    obtain ⟨k, ⟨A, B, C, D, E, F, G, H⟩, hk, rfl, ht, rfl, rfl, rfl, rfl, rfl, rfl, rfl, rfl, hM, hR⟩ := hrel
    have hok : (⟨A, B, C, D, E, F, G, H⟩ : St).ok := by rw [ht]; exact steps_ok _ _ hs _
    have HT := Lib.hid ht
    obtain ⟨lA, lB, lC, lD, lE, lF, lG, lH⟩ := hok
    clear ht HM4 HR4
    by_cases hlt : k < 64
    · have hltz : (k : Int) < 64 := by omega
      have cK := hR.cube k hlt
      have hix := fun w => HI.out k w hlt
      obtain ⟨K, hK⟩ : ∃ K, cubes.getD k 0 = K := ⟨_, rfl⟩
      obtain ⟨W, hW⟩ : ∃ W, (sched b 64).getD k 0 = W := ⟨_, rfl⟩
      rw [hK] at cK
      simp only [hW] at hix
      have HS : Hid (steps cubes (sched b 64) s (k + 1) = step K W ⟨A, B, C, D, E, F, G, H⟩) := Lib.hid (by rw [steps, hK, hW, ← HT.out])
      have HM := Lib.hid hM
      have HRr := Lib.hid hR
      have q1 := big1_int E lE
      have q0 := big0_int A lA
      have qc := cho_int E F G lE lF lG
      have qm := maj_int A B C lA lB lC
      have HA : Hid ((step K W ⟨A, B, C, D, E, F, G, H⟩).a = (H + big1 E + cho E F G + K + W + big0 A + maj A B C) % 4294967296) := Lib.hid rfl
      have HE : Hid ((step K W ⟨A, B, C, D, E, F, G, H⟩).e = (D + (H + big1 E + cho E F G + K + W)) % 4294967296) := Lib.hid rfl
      obtain ⟨x1, h1⟩ : ∃ x, big1 E = x := ⟨_, rfl⟩
      obtain ⟨x0, h0⟩ : ∃ x, big0 A = x := ⟨_, rfl⟩
      obtain ⟨xc, hc⟩ : ∃ x, cho E F G = x := ⟨_, rfl⟩
      obtain ⟨xm, hm⟩ : ∃ x, maj A B C = x := ⟨_, rfl⟩
      rw [h1] at q1 HA HE
      rw [h0] at q0 HA
      rw [hc] at qc HA HE
      rw [hm] at qm HA
      clear hK hW hM hR hlt h0 h1 hc hm
      go_wp2
      go_quiet ((go_at_call 70; exact Calls.quiet_of_same (turn_zq E lE _ (by decide) (by decide) _)))
      have hM := HM.out.drewN nq
      have hR : Roots (wr.drewN nq) := HRr.out
      have HM := Lib.hid hM
      have HRr := Lib.hid hR
      clear hM hR cK
      generalize wr.drewN nq = w5 at HM HRr ⊢
      go_wp2_with fail
      refine (turn_z A lA _ (by decide) (by decide) _).mono ?_
      rintro e w6 ⟨rfl, rfl⟩
      go_wp2_with fail
      refine (turn_z A lA _ (by decide) (by decide) _).mono ?_
      rintro e w6 ⟨rfl, rfl⟩
      go_wp2_with fail
      refine (turn_z A lA _ (by decide) (by decide) _).mono ?_
      rintro e w6 ⟨rfl, rfl⟩
      go_wp2
      go_roundw
      case rel => exact ⟨k + 1, step K W ⟨A, B, C, D, E, F, G, H⟩, by omega, by go_num, HS.out.symm, by rw [HA.out]; congr 1 <;> omega, rfl, rfl, rfl, by rw [HE.out]; congr 1 <;> omega, rfl, rfl, rfl, HM.out, HRr.out⟩
      case measure => simp [intOf]; omega
    · obtain rfl : k = 64 := by omega
      obtain ⟨hbl, hH, hZ⟩ := hM
      have c0 := cell_at (i := 0) hH rfl
      have c1 := cell_at (i := 1) hH rfl
      have c2 := cell_at (i := 2) hH rfl
      have c3 := cell_at (i := 3) hH rfl
      have c4 := cell_at (i := 4) hH rfl
      have c5 := cell_at (i := 5) hH rfl
      have c6 := cell_at (i := 6) hH rfl
      have c7 := cell_at (i := 7) hH rfl
      have HX : Hid ((words (comp s b).list).toArray = #[.int .u32 (((s.a : Int) + (A : Int)) % 4294967296), .int .u32 (((s.b : Int) + (B : Int)) % 4294967296), .int .u32 (((s.c : Int) + (C : Int)) % 4294967296), .int .u32 (((s.d : Int) + (D : Int)) % 4294967296), .int .u32 (((s.e : Int) + (E : Int)) % 4294967296), .int .u32 (((s.f : Int) + (F : Int)) % 4294967296), .int .u32 (((s.g : Int) + (G : Int)) % 4294967296), .int .u32 (((s.h : Int) + (H : Int)) % 4294967296)]) := Lib.hid (by
        simp [words, St.list, comp, St.add, ← HT.out])
      clear hH
      go_wp2_with (refine store_row wr rfl rfl _ _ 80 rfl (w.heap.size + 1 + 1) _ #[.int .u32 (((s.a : Int) + (A : Int)) % 4294967296), .int .u32 (((s.b : Int) + (B : Int)) % 4294967296), .int .u32 (((s.c : Int) + (C : Int)) % 4294967296), .int .u32 (((s.d : Int) + (D : Int)) % 4294967296), .int .u32 (((s.e : Int) + (E : Int)) % 4294967296), .int .u32 (((s.f : Int) + (F : Int)) % 4294967296), .int .u32 (((s.g : Int) + (G : Int)) % 4294967296), .int .u32 (((s.h : Int) + (H : Int)) % 4294967296)] rfl rfl hZ (by rw [size36]; rfl) rfl (all8 _ _ _ _ _ _ _ _) ?_)
      refine bodyPost_ret (v := .agg (words (comp s b).list).toArray) ?_ rfl ⟨rfl, setRow_below hbl (by omega) _⟩
      rw [HX.out]
      exact results_cell rfl _ _ _ rfl (setRow_heap wr _ _ _ _ _ hZ) Tryd.underlying80 (by rw [size36]; rfl)
end Go.Proofs.YthopegokjbibmaaDoor.Sha
