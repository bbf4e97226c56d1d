/- What sha.spread answers of any block: the 64 words of its steps; of memory that was there nothing turns. -/
import Derived.Test.YthopegokjbibmaaDoorHTurn
import Derived.Test.YthopegokjbibmaaDoorHRow
import Derived.BigRegion
import Derived.Deep.QuietTactic
import Derived.BigQuiet
import Derived.StillTailTactics
namespace Go.Proofs.YthopegokjbibmaaDoor.Sha
open Go.RowKit

/-- Sixty-four words, of which the first so many are told. -/
def wordsTo (l : List Nat) : Array Value := (words (l ++ List.replicate (64 - l.length) 0)).toArray
/-- What spread has laid, behind so many words. -/
def Spr (w : World) (b : List UInt8) (H R W : Nat) (k : Nat) (wr : World) : Prop :=
  Below w.heap.size w wr ∧ wr.heap[H]? = some (.cells (vals b).toArray 83) ∧ wr.heap[R]? = some (.cells (wordsTo []) 96) ∧ wr.heap[W]? = some (.cells (wordsTo (sched b k)) 96)

theorem byte_cell {w : World} {H : Nat} {b : List UInt8} {t : TypeId} (h : w.heap[H]? = some (.cells (vals b).toArray t)) (i : Nat) (hi : i < b.length) : w.cell? ⟨H, i, none⟩ = some (.int .u8 (byteAt b i : Nat)) := by
  refine cell_at h ?_
  simp [vals, byteAt, hi]
theorem word_cell {w : World} {H : Nat} {l : List Nat} {t : TypeId} (h : w.heap[H]? = some (.cells (wordsTo l) t)) (i : Nat) (hi : i < l.length) : w.cell? ⟨H, i, none⟩ = some (.int .u32 (l.getD i 0 : Nat)) := by
  refine cell_at h ?_
  simp only [wordsTo, words, List.getElem?_toArray, List.getElem?_map]
  rw [List.getElem?_append_left hi, List.getElem?_eq_getElem hi]
  simp [hi]
theorem zero_cell {w : World} {H : Nat} {l : List Nat} {t : TypeId} (h : w.heap[H]? = some (.cells (wordsTo l) t)) (i : Nat) (hi : l.length ≤ i) (h64 : i < 64) : w.cell? ⟨H, i, none⟩ = some (.int .u32 0) := by
  refine cell_at h ?_
  simp only [wordsTo, words, List.getElem?_toArray, List.getElem?_map]
  rw [List.getElem?_append_right hi, List.getElem?_replicate, if_pos (by omega)]
  rfl
theorem wordsTo_snoc (l : List Nat) (n : Nat) (h : l.length < 64) : (wordsTo l).setIfInBounds l.length (.int .u32 (n : Int)) = wordsTo (l ++ [n]) := by
  apply Array.toList_inj.1
  rw [Array.toList_setIfInBounds]
  simp only [wordsTo, words]
  rw [show 64 - l.length = (64 - (l ++ [n]).length) + 1 by simp; omega, List.replicate_succ]
  simp
theorem Spr.start (w : World) (b : List UInt8) : Spr w b w.heap.size (w.heap.size + 1) (w.heap.size + 1 + 1) 0 (((w.alloc (.cells (vals b).toArray 83)).alloc (.cells (wordsTo []) 96)).alloc (.cells (wordsTo []) 96)) := by
  refine ⟨((((Below.refl _ _).alloc (Nat.le_refl _) _).alloc (by simp) _).alloc (by simp; omega) _), ?_, ?_, ?_⟩
  · rw [heap_alloc_old _ _ (by simp; omega), heap_alloc_old _ _ (by simp)]
    exact heap_alloc_new _ _
  · rw [heap_alloc_old _ _ (by simp)]
    have := heap_alloc_new (w.alloc (.cells (vals b).toArray 83)) (.cells (wordsTo []) 96)
    rwa [World.size_alloc] at this
  · have := heap_alloc_new ((w.alloc (.cells (vals b).toArray 83)).alloc (.cells (wordsTo []) 96)) (.cells (wordsTo []) 96)
    rwa [World.size_alloc, World.size_alloc] at this
theorem Spr.next {w : World} {b : List UInt8} {H R W k : Nat} {wr : World} (h : Spr w b H R W k wr) (hH : H ≠ W) (hR : R ≠ W) (hW : w.heap.size ≤ W) (hk : k < 64) {n : Nat} (hn : sched b (k + 1) = sched b k ++ [n]) :
    Spr w b H R W (k + 1) (wr.setCell ⟨W, k, none⟩ (.int .u32 (n : Int))) := by
  obtain ⟨h1, h2, h3, h4⟩ := h
  refine ⟨h1.setCell hW _, (heap_setCell_other _ _ _ _ (by simpa using hH)).trans h2, (heap_setCell_other _ _ _ _ (by simpa using hR)).trans h3, ?_⟩
  rw [heap_setCell_same _ W k _ _ _ h4]
  have := wordsTo_snoc (sched b k) n (by rw [sched_length]; omega)
  rw [sched_length] at this
  rw [this, hn]
theorem Spr.drew {w : World} {b : List UInt8} {H R W k : Nat} {wr : World} (h : Spr w b H R W k wr) : Spr w b H R W k wr.drew := ⟨h.1.drew, h.2⟩
theorem Spr.drewN {w : World} {b : List UInt8} {H R W k : Nat} {wr : World} (h : Spr w b H R W k wr) (n : Nat) : Spr w b H R W k (wr.drewN n) := ⟨⟨h.1.os, h.1.tape, h.1.output, h.1.size, h.1.block⟩, h.2⟩
theorem be4_int (b : List UInt8) (k : Nat) : bits .or .u32 (bits .or .u32 (bits .or .u32 ((byteAt b (k * 4) : Int) % 4294967296 * 16777216 % 4294967296) ((byteAt b (k * 4 + 1) : Int) % 4294967296 * 65536 % 4294967296)) ((byteAt b (k * 4 + 2) : Int) % 4294967296 * 256 % 4294967296)) ((byteAt b (k * 4 + 3) : Int) % 4294967296) = ((be4 b k : Nat) : Int) := by
  have h0 := byteAt_lt b (k * 4)
  have h1 := byteAt_lt b (k * 4 + 1)
  have h2 := byteAt_lt b (k * 4 + 2)
  have h3 := byteAt_lt b (k * 4 + 3)
  rw [be4, Nat.mul_comm 4 k]
  generalize byteAt b (k * 4) = x0 at *
  generalize byteAt b (k * 4 + 1) = x1 at *
  generalize byteAt b (k * 4 + 2) = x2 at *
  generalize byteAt b (k * 4 + 3) = x3 at *
  rw [show ((x0 : Int) % 4294967296 * 16777216 % 4294967296) = ((x0 * 16777216 % 4294967296 : Nat) : Int) by omega, show ((x1 : Int) % 4294967296 * 65536 % 4294967296) = ((x1 * 65536 % 4294967296 : Nat) : Int) by omega,
    show ((x2 : Int) % 4294967296 * 256 % 4294967296) = ((x2 * 256 % 4294967296 : Nat) : Int) by omega, show ((x3 : Int) % 4294967296) = ((x3 : Nat) : Int) by omega,
    u32_or_nat _ _ mod_lt mod_lt, u32_or_nat _ _ (lt_or mod_lt mod_lt) mod_lt, u32_or_nat _ _ (lt_or (lt_or mod_lt mod_lt) mod_lt) (by omega)]
theorem next_int (A E B L : Nat) (hE : E < 4294967296) (hL : L < 4294967296) :
    IntKind.u32.wrap (IntKind.u32.wrap (IntKind.u32.wrap ((A : Int) + bits .xor .u32 (bits .xor .u32 (rot E 7 : Nat) (rot E 18 : Nat)) ((E : Int) / 8)) + (B : Int)) + bits .xor .u32 (bits .xor .u32 (rot L 17 : Nat) (rot L 19 : Nat)) ((L : Int) / 1024)) = (((A + low0 E + B + low1 L) % 4294967296 : Nat) : Int) := by
  have r7 := rot_lt 7 hE
  have r18 := rot_lt 18 hE
  have r17 := rot_lt 17 hL
  have r19 := rot_lt 19 hL
  rw [show (E : Int) / 8 = ((E / 8 : Nat) : Int) by omega, show (L : Int) / 1024 = ((L / 1024 : Nat) : Int) by omega, u32_xor_nat _ _ r7 r18, u32_xor_nat _ _ (lt_xor r7 r18) (by omega), u32_xor_nat _ _ r17 r19, u32_xor_nat _ _ (lt_xor r17 r19) (by omega)]
  show _ = (((A + ((rot E 7 ^^^ rot E 18) ^^^ (E / 8)) + B + ((rot L 17 ^^^ rot L 19) ^^^ (L / 1024))) % 4294967296 : Nat) : Int)
  generalize ((rot E 7 ^^^ rot E 18) ^^^ (E / 8)) = x
  generalize ((rot L 17 ^^^ rot L 19) ^^^ (L / 1024)) = y
  rw [IntKind.wrap_u32', IntKind.wrap_u32', IntKind.wrap_u32']
  omega
theorem turn_q (x k : Nat) (K : Int) (hK : K = (k : Int)) (h0 : 0 < k) (h : k < 32) (hx : x < 4294967296) (w : World) :
    Calls Tryd.prog 70 #[.int .u32 x, .int .i64 K] w fun e w' => e = .returned (.int .u32 (rot x k : Nat)) ∧ w' = w := by
  subst hK
  exact (turn_any x k h0 h hx w).mono fun e w' ⟨h1, h2⟩ => ⟨h1, h2.symm⟩
set_option maxHeartbeats 1000000 in
set_option maxRecDepth 100000 in
theorem spread_any (b : List UInt8) (hb : b.length = 64) (w : World) :
    Calls Tryd.prog 69 #[.agg (vals b).toArray] w fun e w' => e = .returned (.agg (words (sched b 64)).toArray) ∧ Below w.heap.size w w' := by
  obtain ⟨c, hc⟩ : ∃ c, c = (vals b).toArray := ⟨_, rfl⟩
  rw [← hc]
  go_enter Tryd.func69, Tryd.ntmps69
  go_wp2
  go_loopw [9] (fun i wr => ∃ k : Nat, k ≤ 16 ∧ i = .int .i64 k ∧ Spr w b w.heap.size (w.heap.size + 1) (w.heap.size + 1 + 1) k wr) (fun i _ => 16 - (intOf i).toNat)
  case atStart =>
    refine ⟨0, Nat.zero_le _, rfl, ?_⟩
    exact Spr.start w b
  case round =>
    obtain ⟨k, hk, rfl, hS⟩ := hrel
    by_cases hlt : k < 16
    · have hltz : (k : Int) < 16 := by omega
      obtain ⟨_, hA, _, hW⟩ := id hS
      have c0 := byte_cell hA (k * 4) (by omega)
      have c1 := byte_cell hA (k * 4 + 1) (by omega)
      have c2 := byte_cell hA (k * 4 + 2) (by omega)
      have c3 := byte_cell hA (k * 4 + 3) (by omega)
      have fW := frozen_at (i := k) hW
      have cW := zero_cell hW k (by rw [sched_length]; omega) (by omega)
      have HB := Lib.hid (be4_int b k)
      have HS := Lib.hid (hS.next (by omega) (by omega) (by omega) (by omega) (show sched b (k + 1) = sched b k ++ [be4 b k] by rw [sched, if_pos hlt])).drew
      clear hA hW hc hS
      go_wp2
      go_region
      rw [HB.out]
      clear c0 c1 c2 c3 fW cW
      go_wp2
      go_roundw
      case rel => exact ⟨k + 1, by omega, by go_num, HS.out⟩
      case measure => simp [intOf]; omega
    · have hm : k = 16 := by omega
      have HS0 : Hid (Spr w b w.heap.size (w.heap.size + 1) (w.heap.size + 1 + 1) 16 wr) := Lib.hid (hm ▸ hS)
      have hlz : ¬ (k : Int) < 16 := by omega
      clear hm hS
      go_wp2
      go_loopw [6] (fun i wr => ∃ k : Nat, 16 ≤ k ∧ k ≤ 64 ∧ i = .int .i64 k ∧ Spr w b w.heap.size (w.heap.size + 1) (w.heap.size + 1 + 1) k wr) (fun i _ => 64 - (intOf i).toNat)
      case atStart => exact ⟨16, by omega, by omega, rfl, HS0.out⟩
      case round =>
        clear hlz hlt hk
        obtain ⟨k, hk1, hk, rfl, hS⟩ := hrel
        by_cases hlt : k < 64
        · have hltz : (k : Int) < 64 := by omega
          obtain ⟨_, _, _, hW⟩ := id hS
          have e := sched_length b k
          have hl := sched_lt b k
          have c2 := word_cell hW (k - 2) (by omega)
          have c15 := word_cell hW (k - 15) (by omega)
          have HN : Hid (sched b (k + 1) = sched b k ++ [((sched b k).getD (k - 16) 0 + low0 ((sched b k).getD (k - 15) 0) + (sched b k).getD (k - 7) 0 + low1 ((sched b k).getD (k - 2) 0)) % 4294967296]) := Lib.hid (by rw [sched, if_neg (by omega), nextW, e])
          have g : ∀ j, j < k → (sched b k).getD j 0 < 4294967296 := fun j hj => hl _ (by rw [List.getD_eq_getElem?_getD, List.getElem?_eq_getElem (by omega)]; exact List.getElem_mem _)
          have l2 := g (k - 2) (by omega)
          have l7 := g (k - 7) (by omega)
          have l15 := g (k - 15) (by omega)
          have l16 := g (k - 16) (by omega)
          have HS := Lib.hid hS
          obtain ⟨L, hL⟩ : ∃ x, (sched b k).getD (k - 2) 0 = x := ⟨_, rfl⟩
          obtain ⟨B, hB⟩ : ∃ x, (sched b k).getD (k - 7) 0 = x := ⟨_, rfl⟩
          obtain ⟨E, hE⟩ : ∃ x, (sched b k).getD (k - 15) 0 = x := ⟨_, rfl⟩
          obtain ⟨A, hA⟩ : ∃ x, (sched b k).getD (k - 16) 0 = x := ⟨_, rfl⟩
          rw [hL] at c2 l2 HN
          rw [hE] at c15 l15 HN
          rw [hA] at l16 HN
          rw [hB] at l7 HN
          have H7 := Lib.hid hB
          have H16 := Lib.hid hA
          clear hW hS hc e hl g hL hB hE hA
          go_wp2
          go_quiet (fail)
          have hS := HS.out.drewN nq
          clear HS c2 c15
          generalize wr.drewN nq = w2 at hS ⊢
          have c7 := word_cell hS.2.2.2 (k - 7) (by rw [sched_length]; omega)
          have c16 := word_cell hS.2.2.2 (k - 16) (by rw [sched_length]; omega)
          rw [H7.out] at c7
          rw [H16.out] at c16
          obtain ⟨p, hp⟩ : ∃ p, k - 7 = p := ⟨_, rfl⟩
          obtain ⟨q, hq⟩ : ∃ q, k - 16 = q := ⟨_, rfl⟩
          have ep : IntKind.i64.wrap ((k : Int) - 7) = (p : Int) := by rw [IntKind.wrap_i64]; omega
          have eq : IntKind.i64.wrap ((k : Int) - 16) = (q : Int) := by rw [IntKind.wrap_i64]; omega
          have hp64 : (p : Int) < 64 := by omega
          have hq64 : (q : Int) < 64 := by omega
          have hp64' : p < 64 := by omega
          have hq64' : q < 64 := by omega
          rw [hp] at c7
          rw [hq] at c16
          clear hp hq
          have fW := frozen_at (i := k) hS.2.2.2
          have cW := zero_cell hS.2.2.2 k (by rw [sched_length]; omega) (by omega)
          have HS := Lib.hid hS
          clear hS
          go_wp2
          refine wp_region_still_tail 29 (by kernel_rfl) (by kernel_rfl) ?_
          simp only [List.take_succ_cons, List.take_zero, List.drop_succ_cons, List.drop_zero]
          change wpStill _ _ w2.drew (fun a' => wpList _ _ _ _ a' w2.drew) _ _
          repeat still_step
          still_call (turn_q E 7 _ rfl (by omega) (by omega) l15 _)
          repeat still_step
          still_call (turn_q E 18 _ rfl (by omega) (by omega) l15 _)
          repeat still_step
          still_call (turn_q L 17 _ rfl (by omega) (by omega) l2 _)
          repeat still_step
          still_call (turn_q L 19 _ rfl (by omega) (by omega) l2 _)
          repeat still_step
          refine wpStill_nil ?_
          rw [next_int A E B L l15 l2]
          have HS2 := Lib.hid (HS.out.drew.next (by omega) (by omega) (by omega) (by omega) HN.out)
          obtain ⟨X, hX⟩ : ∃ X, X = (A + low0 E + B + low1 L) % 4294967296 := ⟨_, rfl⟩
          rw [← hX] at HS2 ⊢
          clear hX
          go_wp2
          go_roundw
          case rel => exact ⟨k + 1, by omega, by omega, by go_num, HS2.out⟩
          case measure => simp [intOf]; omega
        · obtain rfl : k = 64 := by omega
          obtain ⟨hbl, _, hR, hW⟩ := hS
          have e64 : wordsTo (sched b 64) = (words (sched b 64)).toArray := by unfold wordsTo; rw [sched_length]; simp
          rw [e64] at hW
          have hz : (words (sched b 64)).toArray.size = 64 := by rw [List.size_toArray, words_len, sched_length]
          clear e64 hc
          go_wp2_with (first | (refine load_row wr rfl _ 96 rfl (w.heap.size + 1 + 1) _ 64 79 rfl hW Tryd.underlying96 (by rw [size46, hz]) ?_) | (refine store_row wr rfl rfl _ _ 96 rfl (w.heap.size + 1) _ (words (sched b 64)).toArray rfl rfl hR (by rw [size46, hz]) (by rw [hz]; rfl) (words_one _) ?_))
          refine bodyPost_ret (v := .agg (words (sched b 64)).toArray) (results_cell rfl _ _ _ rfl (setRow_heap wr _ _ _ _ _ hR) Tryd.underlying96 (by rw [size46, hz])) rfl ⟨rfl, setRow_below hbl (by omega) _⟩
end Go.Proofs.YthopegokjbibmaaDoor.Sha
