/- Proved: demesnelaw03.VecTimes answers true for every amount of four numbers of 64 bits and every number of 8 bits, and leaves them as they were. No condition beside the row's own; the card ties the listed tables to the pruned copy. -/
import Derived.Test.YtaljedficmpjpaaDoorVArgs
import Derived.Test.YtaljedficmpjpaaDoorCards
import Derived.Test.YtaljedficmpjpaaDoorTie
import Derived.PlainAid
import Derived.Lay
import Derived.SevenTiedAt
import Derived.LaidMore
import Derived.Stop.Joined
namespace Go.Proofs.YtaljedficmpjpaaDoor.vecTimes
open Go.RowKit Go.Proofs.YtaljedficmpjpaaDoor.Vec

/-- So many times each amount. -/
def mulV (a : Nat → Int) (k : Nat) : Nat → Int := fun i => a i * k
def Fine (a : Nat → Int) (k : Nat) : Prop := ∀ i, i < 4 → a i * (k : Int) ≤ 18446744073709551615
theorem mul_range {a : Nat → Int} (ha : InRange a) {k : Nat} (h : Fine a k) : InRange (mulV a k) := fun i hi => ⟨Int.mul_nonneg (ha i hi).1 (by omega), h i hi⟩
theorem mul_next (a : Nat → Int) (k i : Nat) : mulV a (k + 1) i = mulV a k i + a i := by
  unfold mulV
  rw [Int.natCast_add, Int.mul_add]
  simp
theorem fine_mono {a : Nat → Int} (ha : InRange a) {k n : Nat} (hkn : k ≤ n) (h : Fine a n) : Fine a k := fun i hi =>
  Int.le_trans (Int.mul_le_mul_of_nonneg_left (by omega) (ha i hi).1) (h i hi)
theorem fine_next {a : Nat → Int} {k : Nat} : Fine a (k + 1) ↔ ∀ i, i < 4 → mulV a k i + a i ≤ 18446744073709551615 := by
  unfold Fine
  constructor
  · intro h i hi; rw [← mul_next]; exact h i hi
  · intro h i hi; have := h i hi; rw [← mul_next] at this; exact this

/-- What lies in memory at a round's head. -/
def Head (w : World) (S : Nat) (a : Nat → Int) (k : Nat) (b : Bool) (wr : World) : Prop :=
  Below w.heap.size w wr ∧ wr.heap[w.heap.size]? = some (.cells #[.int .u64 (a 0), .int .u64 (a 1), .int .u64 (a 2), .int .u64 (a 3)] 24) ∧
  ((b = true ∧ Fine a k ∧ wr.heap[S]? = some (box (mulV a k 0) (mulV a k 1) (mulV a k 2) (mulV a k 3))) ∨ (b = false ∧ ¬ Fine a k ∧ wr.heap[S]? = some (box 0 0 0 0)))

theorem head_next {w wr w2 : World} {S : Nat} {a : Nat → Int} {k : Nat} {b : Bool} (hb : Below wr.heap.size wr w2) (h : Head w S a k b wr) :
    Below w.heap.size w w2 ∧ w2.heap[w.heap.size]? = some (.cells #[.int .u64 (a 0), .int .u64 (a 1), .int .u64 (a 2), .int .u64 (a 3)] 24) ∧ ∃ t0 t1 t2 t3, w2.heap[S]? = some (box t0 t1 t2 t3) := by
  obtain ⟨h1, h2, h3⟩ := h
  refine ⟨grows h1 hb, keep0 hb h2, ?_⟩
  rcases h3 with ⟨_, _, h3⟩ | ⟨_, _, h3⟩
  · exact ⟨_, _, _, _, keep0 hb h3⟩
  · exact ⟨_, _, _, _, keep0 hb h3⟩
theorem set_next {w w2 : World} {S : Nat} {a : Nat → Int} (hS : w.heap.size < S) (h1 : Below w.heap.size w w2) (h2 : w2.heap[w.heap.size]? = some (.cells #[.int .u64 (a 0), .int .u64 (a 1), .int .u64 (a 2), .int .u64 (a 3)] 24)) {t0 t1 t2 t3 : Int} (h3 : w2.heap[S]? = some (box t0 t1 t2 t3)) (p q r s : Int) :
    Below w.heap.size w (set4 S p q r s w2) ∧ (set4 S p q r s w2).heap[w.heap.size]? = some (.cells #[.int .u64 (a 0), .int .u64 (a 1), .int .u64 (a 2), .int .u64 (a 3)] 24) ∧ (set4 S p q r s w2).heap[S]? = some (box p q r s) := by
  refine ⟨set4_below h1 (by omega), ?_, set4_box h3 _ _ _ _⟩
  unfold set4
  rw [heap_setCell_other _ _ _ _ (by simp; omega), heap_setCell_other _ _ _ _ (by simp; omega), heap_setCell_other _ _ _ _ (by simp; omega), heap_setCell_other _ _ _ _ (by simp; omega)]
  exact h2

set_option maxRecDepth 100000 in
set_option maxHeartbeats 4000000 in
theorem any (a : Nat → Int) (ha : InRange a) (n : Int) (hn0 : 0 ≤ n) (hn : n ≤ 255) (w : World) :
    Calls Tryd.prog 7 #[.agg #[.int .u64 (a 0), .int .u64 (a 1), .int .u64 (a 2), .int .u64 (a 3)], .int .u8 n] w fun e w' => e = .returned (.bool true) ∧ Below w.heap.size w w' := by
  have heq := equal_vec'
  have hg := guard_vec
  obtain ⟨N, hN⟩ := Int.eq_ofNat_of_zero_le (show 0 ≤ n % 40 by omega)
  have hN40 : N < 40 := by omega
  have HN := Lib.hid hN
  obtain ⟨hx0, hB0⟩ := one_laid w (.cells #[.int .u64 (a 0), .int .u64 (a 1), .int .u64 (a 2), .int .u64 (a 3)] 24)
  have hx := Lib.hid hx0
  have hB := Lib.hid hB0
  clear hx0 hB0 hN
  go_enter Tryd.func7, Tryd.ntmps7
  go_wp2_with fail
  refine (examples_any _).mono ?_
  rintro e w1 ⟨rfl, hb⟩
  have hx' := Lib.hid (keep0 hb hx.out)
  have hB' := Lib.hid (grows hB.out hb)
  clear hx hB hb
  have hx := hx'
  have hB := hB'
  clear hx' hB'
  go_wp2
  have hS : w.heap.size < w1.heap.size := (Array.getElem?_eq_some_iff.1 hx.out).1
  go_loopw [7, 8] (fun ok i wr => ∃ (k : Nat) (b : Bool), ok = .bool b ∧ i = .int .i64 k ∧ k ≤ N ∧ Head w w1.heap.size a k b wr) (fun _ i _ => N - (intOf i).toNat)
  case atStart =>
    refine ⟨0, true, rfl, rfl, Nat.zero_le _, hB.out.alloc hB.out.size _, (heap_alloc_old _ _ hS).trans hx.out, .inl ⟨rfl, fun i hi => by simp, ?_⟩⟩
    rw [heap_alloc_new]
    simp [box, mulV]
  case round =>
    obtain ⟨k, b, rfl, rfl, hk, hh⟩ := hrel
    have HH := Lib.hid hh
    obtain ⟨hb1, hxa, hcase⟩ := hh
    obtain ⟨la, xa0, xa1, xa2, xa3⟩ := has_cells hxa
    rcases hcase with ⟨rfl, hfine, hs⟩ | ⟨rfl, hfine, hs⟩
    · obtain ⟨s, hse⟩ : ∃ s, s = mulV a k := ⟨_, rfl⟩
      rw [← hse] at hs
      obtain ⟨ls, xs0, xs1, xs2, xs3⟩ := has_cells hs
      obtain ⟨_, _, _, _, f0, f1, f2, f3⟩ := cells4 hs
      by_cases hlt : k < N
      · have hltz : decide ((k : Int) < n % 40) = true := decide_eq_true (by rw [HN.out]; omega)
        have hk1 : (k : Int) + 1 ≤ 9223372036854775807 := by omega
        by_cases hnext : Fine a (k + 1)
        · obtain ⟨u, hu⟩ : ∃ u, u = mulV a (k + 1) := ⟨_, rfl⟩
          have C := fun W => Lib.hid (addA s a u (by rw [hse]; exact mul_range ha hfine) ha (by rw [hu]; exact mul_range ha hnext) (fun i _ => by rw [hu, hse]; exact mul_next a k i) W)
          have HU := Lib.hid hu
          have HF := Lib.hid hnext
          clear hse hu hfine hnext hs hxa hb1
          go_wp2_with fail
          refine (C _).out.mono ?_
          rintro e w2 ⟨rfl, hb⟩
          obtain ⟨h1, h2, t0, t1, t2, t3, h3⟩ := head_next hb HH.out
          obtain ⟨c0, c1, c2, c3, g0, g1, g2, g3⟩ := cells4 h3
          have HX := Lib.hid (set_next hS h1 h2 h3 (u 0) (u 1) (u 2) (u 3))
          clear h1 h2 h3 hb xa0 xa1 xa2 xa3 xs0 xs1 xs2 xs3 f0 f1 f2 f3 hltz
          go_wp2
          go_roundw
          case rel =>
            obtain ⟨y1, y2, y3⟩ := HX.out
            exact ⟨k + 1, true, rfl, by go_num, hlt, y1, y2, .inl ⟨rfl, HF.out, by rw [← HU.out]; exact y3⟩⟩
          case measure => simp [intOf]; omega
        · have C := fun W => Lib.hid (addN s a (by rw [hse]; exact mul_range ha hfine) ha (by rw [hse]; exact fun h => hnext (fine_next.2 h)) W)
          have HF := Lib.hid hnext
          clear hse hfine hnext hs hxa hb1
          go_wp2_with fail
          refine (C _).out.mono ?_
          rintro e w2 ⟨rfl, hb⟩
          obtain ⟨h1, h2, t0, t1, t2, t3, h3⟩ := head_next hb HH.out
          obtain ⟨c0, c1, c2, c3, g0, g1, g2, g3⟩ := cells4 h3
          have HX := Lib.hid (set_next hS h1 h2 h3 0 0 0 0)
          clear h1 h2 h3 hb xa0 xa1 xa2 xa3 xs0 xs1 xs2 xs3 f0 f1 f2 f3 hltz
          go_wp2
          go_roundw
          case rel =>
            obtain ⟨y1, y2, y3⟩ := HX.out
            exact ⟨k + 1, false, rfl, by go_num, hlt, y1, y2, .inr ⟨rfl, HF.out, y3⟩⟩
          case measure => simp [intOf]; omega
      · obtain rfl : k = N := by omega
        have hltz : decide ((k : Int) < n % 40) = false := decide_eq_false (by rw [HN.out]; omega)
        have sa : same (s 0) (s 1) (s 2) (s 3) (s 0) (s 1) (s 2) (s 3) = true := same_refl _ _ _ _
        have T := fun W => Lib.hid (timesA a s (n % 40) ha ⟨by omega, by omega⟩ (by rw [hse]; exact mul_range ha hfine) (fun i _ => by rw [hse, HN.out]; rfl) W)
        have HB := Lib.hid hb1
        have HS := Lib.hid hs
        clear hse hfine hs hxa hb1 HH f0 f1 f2 f3 xs0 xs1 xs2 xs3
        go_wp2_with fail
        refine (T _).out.mono ?_
        rintro e w2 ⟨rfl, hb⟩
        obtain ⟨l2, y0, y1, y2, y3⟩ := has_cells (keep0 hb HS.out)
        have hB2 := grows HB.out hb
        clear hb xa0 xa1 xa2 xa3 la ls
        go_wp2
        go_ret
        exact ⟨rfl, hB2.alloc hB2.size _⟩
    · obtain ⟨ls, xs0, xs1, xs2, xs3⟩ := has_cells hs
      have hno : ¬ Fine a N := fun h => hfine (fine_mono ha hk h)
      have s0 : same 0 0 0 0 0 0 0 0 = true := rfl
      have T := fun W => Lib.hid (timesN a (n % 40) ha ⟨by omega, by omega⟩ (fun h => hno (fun i hi => by have := h i hi; rw [HN.out] at this; exact this)) W)
      have HB := Lib.hid hb1
      have HS := Lib.hid hs
      clear hfine hs hxa hb1 HH xs0 xs1 xs2 xs3 hno
      by_cases hlt : k < N
      · have hltz : decide ((k : Int) < n % 40) = true := decide_eq_true (by rw [HN.out]; omega)
        go_wp2_with fail
        refine (T _).out.mono ?_
        rintro e w2 ⟨rfl, hb⟩
        obtain ⟨l2, y0, y1, y2, y3⟩ := has_cells (keep0 hb HS.out)
        have hB2 := grows HB.out hb
        clear hb xa0 xa1 xa2 xa3 la ls
        go_wp2
        go_ret
        exact ⟨rfl, hB2.alloc hB2.size _⟩
      · have hltz : decide ((k : Int) < n % 40) = false := decide_eq_false (by rw [HN.out]; omega)
        go_wp2_with fail
        refine (T _).out.mono ?_
        rintro e w2 ⟨rfl, hb⟩
        obtain ⟨l2, y0, y1, y2, y3⟩ := has_cells (keep0 hb HS.out)
        have hB2 := grows HB.out hb
        clear hb xa0 xa1 xa2 xa3 la ls
        go_wp2
        go_ret
        exact ⟨rfl, hB2.alloc hB2.size _⟩

theorem walk (a0 a1 a2 a3 : Int) (ha : InRange (of4 a0 a1 a2 a3)) (n : Int) (hn0 : 0 ≤ n) (hn : n ≤ 255) (w : World) :
    Calls Tryd.prog 7 #[.agg #[.int .u64 a0, .int .u64 a1, .int .u64 a2, .int .u64 a3], .int .u8 n] w fun e w' => e = .returned (.bool true) ∧ Below w.heap.size w w' :=
  any (of4 a0 a1 a2 a3) ha n hn0 hn w
open Go.ChangeShapes Go.WideShapes Go.ChangeAt
set_option maxRecDepth 100000 in
theorem lifted (os : Os) (started : os.Started) (H : Type) (enc : TypeId × Value → H) :
    ReturnsInHanded {} Tryd.checked os 7 .any (fun w args => (Rows.vecTimesSpec.pre enc Tryd.prog Tryd.f7 Rows.vecTimesRow.domain false w args ∧ laidMetH Tryd.prog Rows.vecTimesRow.laid w) ∧ sizedMet enc Tryd.prog Tryd.f7 (OpenSpec.ofChange Rows.vecTimesSpec) false w args)
      (Rows.vecTimesSpec.post enc Tryd.prog Tryd.f7 false true false false) := by
  refine returnsInHanded_of_change_and (C := Tryd.checked) (X := fun w _ => laidMetH Tryd.prog Rows.vecTimesRow.laid w) (fun _ _ _ hh h => h.of_heap hh) Ends.own started (by kernel_rfl) Tryd.func7
    (ChangeSpec.witness_shaped (enc := enc) (C := Tryd.checked) (os := os) (X := fun w _ => laidMetH Tryd.prog Rows.vecTimesRow.laid w) false (World.laidAll Tryd.prog os Rows.vecTimesRow.laid) #[.agg #[.int .u64 0, .int .u64 0, .int .u64 0, .int .u64 0], .int .u8 0] 8 (World.laidAll_os _ _ _)
      (World.shaped_of_ZipB (by kernel_rfl) (by kernel_rfl)) (by kernel_rfl) (by kernel_rfl) (by kernel_rfl)
      (by rw [MakeChecks.laidMetH_plain _ _ _ (by kernel_rfl)]; exact laidMet_laidAll _ (by kernel_rfl) (by kernel_rfl))) ?_
  intro W base args ds gs before hval0 hW _ _ _ _
  have hval : ∀ (j : Nat) t v, Tryd.f7.params[j]? = some t → args[j]? = some v → Value.okWide Tryd.prog W .any base t v := hval0
  have hW' := hW
  obtain ⟨p, q, hA0, hV, rfl, hfz, hnd⟩ := hW
  have hA : DataW.TrodAll enc Tryd.prog W 0 (fun _ => true) true Tryd.f7.params.toList args.toList ds p := hA0
  rw [Tryd.params7] at hA hval
  obtain ⟨v0, vs0, d0, ds0, p0, q0, hargs, rfl, rfl, h0, r0⟩ := trodAll_cons hA
  obtain ⟨v1, vs1, d1, ds1, p1, q1, rfl, rfl, rfl, h1, r1⟩ := trodAll_cons r0
  obtain ⟨rfl, rfl, rfl⟩ := trodAll_nil r1
  obtain rfl : args = #[v0, v1] := by cases args; simp_all
  obtain ⟨rfl, rfl⟩ := trodVars_none hV
  obtain ⟨a0, b0, c0, e0, rfl, w0⟩ := Vec.open_vec (hval 0 24 v0 rfl rfl) h0
  obtain ⟨a1, rfl, rfl, rfl, w1⟩ := open_int Tryd.underlying5 (hval 1 5 v1 rfl rfl) h1
  have b1 := bounds_u8 w1
  refine (walk a0 b0 c0 e0 w0 a1 b1.1 b1.2 W).mono fun e W' ⟨he, hb⟩ => ?_
  subst he
  exact ⟨_, rfl, Ends.law_end Ends.laidOut (by rw [Tryd.params7]; decide +kernel) rfl (by kernel_rfl) Tryd.underlying4 hW' rfl hb⟩

theorem row : Rows.VecTimesSaid :=
  OpenClaim.holds_of_wide 7 Tryd.f7 rfl rfl rfl rfl rfl rfl rfl ⟨rfl, rfl, rfl, rfl, rfl⟩ rfl rfl rfl rfl rfl (by kernel_rfl) Tryd.func7 (by kernel_rfl)
    (of_decide_eq_true (by kernel_rfl)) (by unfold Func.isWrapper; first | (rw [if_pos (by decide +kernel)]; kernel_rfl) | (rw [if_neg (by decide +kernel)]; exact ⟨rfl, rfl⟩))
    (fun os started H enc _ => lifted os started H enc)

/-- The statement: the tied card. -/
theorem proved : Rows.VecTimesCardSaid :=
  Claim7.holds_tied_plain_at .later [] [.data, .data, .data, .data, .sentinel, .sentinel, .pinned] true Rows.vecTimesCard.stood.harness true row (fun _ h => by cases h) (by kernel_rfl) (fun _ h => by cases h) vecTimes_row_tie rfl ⟨rfl, rfl⟩ (by kernel_rfl) rfl
    (fun f fn hf hfn => by
      obtain rfl : f = 7 := Option.some.inj ((show Tryd.prog.funcNamed "demesne/demesnelaw03.VecTimes" = some 7 by kernel_rfl).symm.trans hf) |>.symm
      obtain rfl : fn = Tryd.f7 := (Option.some.inj (Tryd.func7.symm.trans hfn)).symm
      exact ⟨by kernel_rfl, fun j t ht => by
        rw [Tryd.params7] at ht
        have hm : t ∈ [24, 5] := by simpa using Array.mem_of_getElem? ht
        have hall : ([24, 5].all fun u => !Tryd.prog.wantsStandIn u) = true := by kernel_rfl
        exact (show Tryd.prog.wantsStandIn t = false by simpa using List.all_eq_true.1 hall t hm)⟩)
    (by kernel_rfl)
end Go.Proofs.YtaljedficmpjpaaDoor.vecTimes
