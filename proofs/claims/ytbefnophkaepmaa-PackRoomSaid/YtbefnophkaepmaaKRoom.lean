/- What the program's Room answers of any slots, selector, demand, number (chapter 13): as the document has it; of memory that was there nothing turns. -/
import Derived.Test.YtbefnophkaepmaaKFit
namespace Go.Proofs.Ytbefnophkaepmaa.Pack
open Go.RowKit Go.Proofs.Ytbefnophkaepmaa.Label Go.Proofs.Ytbefnophkaepmaa.Sel Go.Proofs.Ytbefnophkaepmaa.Vec Go.Proofs.Ytbefnophkaepmaa.Texts

theorem holdN_min {f d : V} (hf : Nonneg f) (hd : Nonneg d) {a b : Nat} (h : a ≤ b) : holdN f d a = min (holdN f d b) a := by
  have key : ∀ k, k ≤ holdN f d a ↔ k ≤ min (holdN f d b) a := fun k => by
    rw [le_holdN hf hd, Nat.le_min, le_holdN hf hd]
    constructor
    · rintro ⟨h1, h2⟩; exact ⟨⟨by omega, h2⟩, h1⟩
    · rintro ⟨⟨_, h2⟩, h1⟩; exact ⟨h1, h2⟩
  exact Nat.le_antisymm ((key _).1 (Nat.le_refl _)) ((key _).2 (Nat.le_refl _))

set_option maxHeartbeats 4000000 in
set_option maxRecDepth 100000 in
theorem room_any (v u : Value) (ls : List Slot) (ts : List Tm) (d : Nat → Int) (n : Int) (w : World) (hv : SlRow w v ls) (hu : TRow w u ts) (hf : Sel.Fair ts) (hd : InRange d) (hn : -9223372036854775808 ≤ n ∧ n ≤ 9223372036854775807) :
    Calls Try.prog 16 #[v, u, vec (d 0) (d 1) (d 2) (d 3), .int .i64 n] w fun e w' => e = .returned (.int .i64 (roomN d n.toNat (seenAll ts ls) : Int)) ∧ Below w.heap.size w w' := by
  obtain ⟨M, hM⟩ : ∃ M : Nat, n.toNat = M := ⟨_, rfl⟩
  rw [hM]
  have hl := hv.len
  obtain ⟨a, cap, rfl, _, _⟩ := hv.slice
  obtain ⟨ua, uc, rfl, _, _⟩ := hu.slice
  obtain ⟨W, hW⟩ : ∃ W, W = w.alloc (boxV d) := ⟨_, rfl⟩
  have hwW : Below w.heap.size w W := by rw [hW]; exact (Below.refl _ _).alloc (Nat.le_refl _) _
  have hWs : W.heap.size = w.heap.size + 1 := by rw [hW]; simp
  have hWb : W.heap[w.heap.size]? = some (boxV d) := by rw [hW]; exact heap_alloc_new _ _
  obtain ⟨W1, hW1⟩ : ∃ W1, W1 = W.alloc (.cells #[.slice ua ts.length uc] 23) := ⟨_, rfl⟩
  have h1 : Below W.heap.size W W1 := by rw [hW1]; exact (Below.refl _ _).alloc (Nat.le_refl _) _
  have hc1 : W1.cell? ⟨W.heap.size, 0, none⟩ = some (.slice ua ts.length uc) := by rw [hW1]; exact cell_at (heap_alloc_new _ _) rfl
  have h1s : W1.heap.size = W.heap.size + 1 := by rw [hW1]; simp
  have hw1 : Below w.heap.size w W1 := hwW.trans (h1.mono (by omega))
  have HB := Lib.hid (fun w' (h : Below W1.heap.size W1 w') => (show w'.heap[w.heap.size]? = some (boxV d) from (h.block _ (by omega)).trans ((h1.block _ (by omega)).trans hWb)))
  have HC1 := Lib.hid (fun w' (h : Below W1.heap.size W1 w') => (show w'.cell? ⟨W.heap.size, 0, none⟩ = some (.slice ua ts.length uc) from (h.cell (p := ⟨W.heap.size, 0, none⟩) (show W.heap.size < W1.heap.size by omega)).trans hc1))
  have HV := Lib.hid (hv.below hw1)
  have HU := Lib.hid (hu.below hw1)
  have HF := Lib.hid hf
  have HD := Lib.hid hd
  have HN := Lib.hid (And.intro hn hM)
  have HW := Lib.hid hW
  have HW1 := Lib.hid hW1
  have H1 := Lib.hid hw1
  have HSz := Lib.hid (And.intro hWs h1s)
  have HMat := Lib.hid (matching_any ua ts.length uc W)
  have hen := enters_match
  unfold vec
  unfold boxV at HW
  clear hv hu hf hd hW hW1 hc1 h1 hwW hWb hw1 hWs h1s hn hM
  go_enter Try.func16, Try.ntmps16
  go_upto_region 1 with fail
  rw [← HW.out]
  clear HW
  go_wp2_with fail
  (with_reducible refine HMat.out.mono ?_)
  rintro _ _ ⟨rfl, rfl⟩
  rw [← HW1.out]
  clear HW1 HMat
  go_wp2
  go_loopw [8, 16] (fun r t wr => ∃ k : Nat, k ≤ ls.length ∧ t = .int .i64 k ∧ r = .int .i64 (roomN d M (seenAll ts (ls.take k)) : Int) ∧ Below W1.heap.size W1 wr) (fun _ t _ => ls.length - (intOf t).toNat)
  case atStart => exact ⟨0, Nat.zero_le _, rfl, by rfl, Below.refl _ _⟩
  case round =>
    obtain ⟨k, hk, rfl, rfl, hb⟩ := hrel
    by_cases hlt : k < ls.length
    · have hltz : (k : Int) < (ls.length : Int) := by omega
      have hk0 : (0 : Int) ≤ (k : Int) := by omega
      obtain ⟨s, hs⟩ : ∃ s, ls[k]? = some s := ⟨_, List.getElem?_eq_getElem hlt⟩
      obtain ⟨g, o, rfl, hg, hcell⟩ := HV.out.cells hlt
      obtain ⟨la, lc, p0, p1, p2, p3, p4, p5, hlr, hok⟩ := LCells.flat (hcell.below hg hb) hs
      obtain ⟨W2, hW2⟩ : ∃ W2, W2 = wr.alloc (boxS s (.slice la s.labs.length lc)) := ⟨_, rfl⟩
      have h2 : Below wr.heap.size wr W2 := by rw [hW2]; exact (Below.refl _ _).alloc (Nat.le_refl _) _
      have hS : W2.heap[wr.heap.size]? = some (boxS s (.slice la s.labs.length lc)) := by rw [hW2]; exact heap_alloc_new _ _
      obtain ⟨b0, b1, b2, b3, b4, b5⟩ := cellsB hS
      have hb2 : Below W1.heap.size W1 W2 := hb.trans (h2.mono hb.size)
      have hc2 := HC1.out W2 hb2
      have HC := Lib.hid (match1_any HF.out hok W2 hc2 (by have := hb2.size; have := HSz.out; omega) (HU.out.below hb2) (hlr.below h2))
      have hrr : roomN d M (seenAll ts (ls.take (k + 1))) = roomN d M (seenAll ts (ls.take k)) + min (slotN d M (seen ts s)) (M - roomN d M (seenAll ts (ls.take k))) := by
        have := roomN_ref (d := d) (n := M) (k := k) (seenAll_get (ts := ts) hs)
        unfold seenAll at *
        rw [← List.map_take, ← List.map_take] at this
        exact this
      have hRM : roomN d M (seenAll ts (ls.take k)) ≤ M := Nat.min_le_right _ _
      obtain ⟨R, hR⟩ : ∃ R, roomN d M (seenAll ts (ls.take k)) = R := ⟨_, rfl⟩
      rw [hR] at hrr hRM ⊢
      have HOk := Lib.hid hok
      have HSb := Lib.hid hS
      have HW2 := Lib.hid hW2
      have hr2 : wr.heap.size < W2.heap.size := (Array.getElem?_eq_some_iff.1 hS).1
      obtain ⟨q, hq⟩ : ∃ q, fit1 ts s = q := ⟨_, rfl⟩
      rw [hq] at HC
      unfold valS at HC
      unfold boxS at HW2
      have HQ := Lib.hid hq
      clear hlr hok hcell hs hR hS hW2 hc2 h2 hq
      go_upto_region 5 with fail
      rw [← HW2.out]
      clear HW2 p0 p1 p2 p3 p4 p5
      go_wp2_with fail
      (with_reducible refine HC.out.mono ?_)
      rintro _ wq ⟨rfl, hbq⟩
      have hb3 : Below W1.heap.size W1 wq := hb2.trans (hbq.mono hb2.size)
      clear HC b0 b1 b2 b3 b4 b5
      cases q with
      | false =>
        have HN' : Hid (roomN d M (seenAll ts (ls.take (k + 1))) = R) := Lib.hid (by
          have : slotN d M (seen ts s) = 0 := by
            unfold slotN
            rw [show (seen ts s).1 = false from HQ.out]
            rfl
          rw [hrr, this]; omega)
        clear hrr
        go_wp2
        go_roundw
        case rel => exact ⟨k + 1, by omega, by go_num, by rw [HN'.out], hb3⟩
        case measure => simp [intOf]; omega
      | true =>
        have hsl : slotN d M (seen ts s) = holdN s.free d M := by
          unfold slotN
          rw [show (seen ts s).1 = true from HQ.out]
          rfl
        rw [hsl, ← holdN_min (nonneg HOk.out.free) (nonneg HD.out) (Nat.sub_le M R)] at hrr
        obtain ⟨D, hD⟩ : ∃ D : Int, n - (R : Int) = D := ⟨_, rfl⟩
        have hwD : IntKind.i64.wrap (n - (R : Int)) = D := by
          have := HN.out
          rw [IntKind.wrap_i64] <;> omega
        have hcnt : cnt s.free d (if 0 < D then D else 0) 4 = (holdN s.free d (M - R) : Int) := by
          have : (if 0 < D then D else 0) = ((M - R : Nat) : Int) := by have := HN.out; split <;> omega
          rw [this]
          exact cnt_hold HOk.out.free HD.out (M - R)
        have HH := Lib.hid (fun w => (by have := holds_any s.free d HOk.out.free HD.out D _ (by have := HN.out; omega) (by have := HN.out; omega) rfl w; rw [hcnt] at this; exact this : Calls Try.prog 21 #[vec (s.free 0) (s.free 1) (s.free 2) (s.free 3), vec (d 0) (d 1) (d 2) (d 3), .int .i64 D] w fun e w' => e = .returned (.int .i64 (holdN s.free d (M - R) : Int)) ∧ Below w.heap.size w w'))
        have hhold := holdN_le s.free d (M - R)
        obtain ⟨z, hz⟩ : ∃ z, holdN s.free d (M - R) = z := ⟨_, rfl⟩
        rw [hz] at HH hrr hhold
        unfold vec at HH
        have hwadd : IntKind.i64.wrap ((R : Int) + (z : Int)) = ((R + z : Nat) : Int) := by
          have := HN.out
          rw [IntKind.wrap_i64] <;> omega
        have hS3 := (hbq.block _ hr2).trans HSb.out
        obtain ⟨_, b1, b2, b3, b4, _⟩ := cellsB hS3
        obtain ⟨d0, d1, d2, d3, _⟩ := cells4V (HB.out wq hb3)
        have HR := Lib.hid hrr
        clear hrr hsl hcnt hz hD hS3
        go_wp2_with fail
        (with_reducible refine (HH.out _).mono ?_)
        rintro _ ws ⟨rfl, hbs⟩
        clear HH b1 b2 b3 b4 d0 d1 d2 d3
        go_wp2
        go_roundw
        case rel => exact ⟨k + 1, by omega, by go_num, by rw [HR.out, Int.natCast_add], hb3.trans (hbs.mono hb3.size)⟩
        case measure => simp [intOf]; omega
    · have hltz : ¬ (k : Int) < (ls.length : Int) := by omega
      have HE : Hid (ls.take k = ls) := Lib.hid (List.take_of_length_le (by omega))
      have hbw := H1.out.trans (hb.mono H1.out.size)
      go_wp2
      go_ret
      exact ⟨by rw [HE.out]; rfl, hbw⟩
end Go.Proofs.Ytbefnophkaepmaa.Pack
