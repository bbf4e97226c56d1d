/- What the document's own Get, Put, Digits and Text answer of amounts (chapter 3); of memory that was there nothing turns. -/
import Derived.Test.YtbilkeadhflibaaGreatDoorYRefA
import Derived.Test.YtbilkeadhflibaaGreatDoorRefPut
import Derived.Deep.QuietTactic
import Derived.BigQuiet
namespace Go.Proofs.YtbilkeadhflibaaGreatDoor.Job
open Go.RowKit Go.Proofs.YtbilkeadhflibaaGreatDoor.Wire Go.Proofs.YtbilkeadhflibaaGreatDoor.Vec Go.Proofs.YtbilkeadhflibaaGreatDoor.Sel

/-- What lies in memory in a round of Get. -/
structure GetAt (w0 : World) (H : Nat) (v : Nat → Int) (k : Nat) (w : World) : Prop where
  below : Below H w0 w
  big : H + 2 ≤ w.heap.size
  res : w.heap[H]? = some (boxR fun _ => 0)
  sum : w.heap[H + 1]? = some (boxR (till k v))
theorem GetAt.more {w0 w w' : World} {H k : Nat} {v : Nat → Int} (h : GetAt w0 H v k w) (hb : Below w.heap.size w w') : GetAt w0 H v k w' := by
  have := h.big
  exact ⟨h.below.trans (hb.mono (by omega)), by have := hb.size; omega, (hb.block _ (by omega)).trans h.res, (hb.block _ (by omega)).trans h.sum⟩
theorem GetAt.set {w0 w : World} {H k : Nat} {v : Nat → Int} (h : GetAt w0 H v k w) (hk : k < 4) : GetAt w0 H v (k + 1) (w.setCell ⟨H + 1, k, none⟩ (.int .u64 (v k))) :=
  ⟨h.below.setCell (p := ⟨H + 1, k, none⟩) (by simp) _, by simpa using h.big, (heap_setCell_other _ _ _ _ (by simp)).trans h.res, till_set h.sum hk⟩
theorem two_boxesG (w : World) (v : Nat → Int) : GetAt w w.heap.size v 0 ((w.alloc (boxR fun _ => 0)).alloc (boxR fun _ => 0)) := by
  have s1 : (w.alloc (boxR fun _ => 0)).heap.size = w.heap.size + 1 := World.size_alloc ..
  refine ⟨((Below.refl _ _).alloc (Nat.le_refl _) _).alloc (by omega) _, by rw [World.size_alloc, s1]; omega, ?_, ?_⟩
  · rw [heap_alloc_old _ _ (by omega)]; exact heap_alloc_new _ _
  · rw [till_zero]
    have := heap_alloc_new (w.alloc (boxR fun _ => 0)) (boxR fun _ => 0); rw [s1] at this; exact this
theorem refGet_at (s : ByteArray) (hs : s.size ≤ 9223372036854775797) (p : Int) (k : Nat) (w : World) :
    Calls Tryz.prog 36 #[.string s, .int .i64 (posAt s.data.toList p k)] w fun e w' => e = .returned (.tuple #[.int .u64 (valAt s.data.toList p k), .int .i64 (posAt s.data.toList p (k + 1)), .bool (okAt s.data.toList p k)]) ∧ Below w.heap.size w w' := by
  have e : posAt s.data.toList p (k + 1) = match getV s.data.toList (posAt s.data.toList p k) with | some x => (x.2 : Int) | none => 0 := rfl
  unfold valAt okAt
  rw [e]
  cases h : getV s.data.toList (posAt s.data.toList p k) with
  | none =>
    refine (refGet_no s hs _ h w).mono ?_
    rintro e w' ⟨rfl, rfl⟩
    exact ⟨rfl, Below.refl _ _⟩
  | some x =>
    refine (refGet_yes s hs _ x.1 x.2 h w).mono ?_
    rintro e w' ⟨rfl, rfl⟩
    exact ⟨rfl, Below.refl _ _⟩

set_option maxHeartbeats 4000000 in
set_option maxRecDepth 100000 in
theorem refGetV_on (s : ByteArray) (hs : s.size ≤ 9223372036854775797) (p : Int) (w : World) :
    Calls Tryz.prog 35 #[.string s, .int .i64 p] w fun e w' =>
      (((∀ i, i < 4 → okAt s.data.toList p i = true) ∧ e = .returned (.tuple #[vec (valAt s.data.toList p 0) (valAt s.data.toList p 1) (valAt s.data.toList p 2) (valAt s.data.toList p 3), .int .i64 (posAt s.data.toList p 4), .bool true])) ∨ ((¬ ∀ i, i < 4 → okAt s.data.toList p i = true) ∧ e = .returned (.tuple #[vec 0 0 0 0, .int .i64 0, .bool false]))) ∧ Below w.heap.size w w' := by
  obtain ⟨v, hv⟩ : ∃ v, v = valAt s.data.toList p := ⟨_, rfl⟩
  obtain ⟨q, hq⟩ : ∃ q, q = posAt s.data.toList p := ⟨_, rfl⟩
  obtain ⟨ok, hok⟩ : ∃ ok, ok = okAt s.data.toList p := ⟨_, rfl⟩
  have HM : Hid (∀ k W, Calls Tryz.prog 36 #[.string s, .int .i64 (q k)] W fun e w' => e = .returned (.tuple #[.int .u64 (v k), .int .i64 (q (k + 1)), .bool (ok k)]) ∧ Below W.heap.size W w') := Lib.hid fun k W => by rw [hv, hq, hok]; exact refGet_at s hs p k W
  have H0 : Hid (q 0 = p) := Lib.hid (by rw [hq]; rfl)
  have f1 := two_boxesG w v
  rw [← hv, ← hq, ← hok]
  obtain ⟨W, hW⟩ : ∃ W, W = (w.alloc (boxR fun _ => 0)).alloc (boxR fun _ => 0) := ⟨_, rfl⟩
  rw [← hW] at f1
  have HW := Lib.hid hW
  have HA := Lib.hid f1
  clear hW f1 hv hq hok hs
  unfold vec
  unfold boxR at HW
  go_enter Tryz.func35, Tryz.ntmps35
  go_upto_region 2 with fail
  rw [← HW.out]
  clear HW
  go_wp2
  go_loopw [1, 8] (fun a t wr => ∃ k : Nat, k ≤ 4 ∧ t = .int .i64 k ∧ a = .int .i64 (q k) ∧ (∀ i, i < k → ok i = true) ∧ GetAt w w.heap.size v k wr) (fun _ t _ => 4 - (intOf t).toNat)
  case atStart => exact ⟨0, Nat.zero_le _, rfl, by rw [H0.out], fun i hi => absurd hi (by omega), HA.out⟩
  case round =>
    obtain ⟨k, hk, rfl, rfl, hall, hs⟩ := hrel
    have HS := Lib.hid hs
    have HL := Lib.hid hall
    clear hall hs
    by_cases hlt : k < 4
    · have hltz : (k : Int) < 4 := by omega
      have hk0 : (0 : Int) ≤ (k : Int) := by omega
      have hbig := HS.out.big
      have HC := Lib.hid (HM.out k)
      obtain ⟨d, hd⟩ : ∃ d, v k = d := ⟨_, rfl⟩
      obtain ⟨b, hb⟩ : ∃ b, ok k = b := ⟨_, rfl⟩
      rw [hb, hd] at HC
      have HD := Lib.hid (And.intro hd hb)
      clear hd hb
      cases b with
      | true =>
        have HN : Hid (∀ i, i < k + 1 → ok i = true) := Lib.hid (fun i hi => by
          by_cases e : i = k
          · subst e; exact HD.out.2
          · exact HL.out i (by omega))
        go_wp2_with fail
        with_reducible refine (HC.out _).mono ?_
        rintro e ws ⟨rfl, kb⟩
        have hq := HS.out.more kb
        have s0 := cellR hq.sum k hlt
        have z0 : ws.frozen? ⟨w.heap.size + 1, k, none⟩ = false := frozen_at hq.sum
        have HQ := Lib.hid (hq.set hlt)
        rw [HD.out.1] at HQ
        clear hq kb
        go_wp2
        go_roundw
        case rel => exact ⟨k + 1, by omega, by go_num, rfl, HN.out, HQ.out⟩
        case measure => simp [intOf]; omega
      | false =>
        have HN : Hid (¬ ∀ i, i < 4 → ok i = true) := Lib.hid (fun h => by have := h k hlt; rw [HD.out.2] at this; cases this)
        go_wp2_with fail
        with_reducible refine (HC.out _).mono ?_
        rintro e ws ⟨rfl, kb⟩
        have hq := HS.out.more kb
        obtain ⟨r0, r1, r2, r3, z0, z1, z2, z3⟩ := cells4R hq.res
        have HDd := Lib.hid (set4_boxR hq.res 0 0 0 0)
        have HB := Lib.hid (set4_below (T := w.heap.size) (a := 0) (b := 0) (c := 0) (d := 0) hq.below (by omega))
        clear hq kb
        go_wp2
        obtain ⟨d0, d1, d2, d3⟩ := HDd.out
        unfold set4 at d0 d1 d2 d3
        refine bodyPost_ret (v := .tuple #[.agg #[.int .u64 0, .int .u64 0, .int .u64 0, .int .u64 0], .int .i64 0, .bool false]) (by simp [results, Tryz.results35, go_sem, d0, d1, d2, d3]) rfl ?_
        exact ⟨.inr ⟨HN.out, rfl⟩, HB.out⟩
    · obtain rfl : k = 4 := by omega
      have hq := HS.out
      have hs := hq.sum
      rw [till_four] at hs
      obtain ⟨m0, m1, m2, m3, _⟩ := cells4R hs
      obtain ⟨r0, r1, r2, r3, z0, z1, z2, z3⟩ := cells4R hq.res
      have HDd := Lib.hid (set4_boxR hq.res (v 0) (v 1) (v 2) (v 3))
      have HB := Lib.hid (set4_below (T := w.heap.size) (a := v 0) (b := v 1) (c := v 2) (d := v 3) hq.below (by omega))
      clear hq hs
      go_wp2
      obtain ⟨d0, d1, d2, d3⟩ := HDd.out
      unfold set4 at d0 d1 d2 d3
      refine bodyPost_ret (v := .tuple #[.agg #[.int .u64 (v 0), .int .u64 (v 1), .int .u64 (v 2), .int .u64 (v 3)], .int .i64 (q 4), .bool true]) (by simp [results, Tryz.results35, go_sem, d0, d1, d2, d3]) rfl ?_
      exact ⟨.inl ⟨fun i hi => HL.out i hi, rfl⟩, HB.out⟩

/-! ### Put -/
theorem one_boxR (w : World) (x : Nat → Int) : (w.alloc (boxR x)).heap[w.heap.size]? = some (boxR x) := heap_alloc_new _ _
set_option maxHeartbeats 4000000 in
set_option maxRecDepth 100000 in
theorem refPutV_any (x : Nat → Nat) (hx : ∀ k, k < 4 → x k < 18446744073709551616) (w : World) :
    Calls Tryz.prog 54 #[vec (x 0) (x 1) (x 2) (x 3)] w fun e w' => e = .returned (.string (str (putV x 4))) ∧ Below w.heap.size w w' := by
  have hz : ∀ k, k < 4 → (str (putL (x k))).size ≤ 10 := fun k hk => by rw [size_str]; exact putL_le (hx k hk)
  have HP0 := Lib.hid (fun W => refPut_any (x 0) (hx 0 (by omega)) W)
  have HP1 := Lib.hid (fun W => refPut_any (x 1) (hx 1 (by omega)) W)
  have HP2 := Lib.hid (fun W => refPut_any (x 2) (hx 2 (by omega)) W)
  have HP3 := Lib.hid (fun W => refPut_any (x 3) (hx 3 (by omega)) W)
  have hall : str (putL (x 0)) ++ str (putL (x 1)) ++ str (putL (x 2)) ++ str (putL (x 3)) = str (putV x 4) := by
    rw [Wire.str_append, Wire.str_append, Wire.str_append]
    rfl
  have z0 := hz 0 (by omega)
  have z1 := hz 1 (by omega)
  have z2 := hz 2 (by omega)
  have z3 := hz 3 (by omega)
  have hb := grew w (boxR fun i => (x i : Int))
  have hX := one_boxR w (fun i => (x i : Int))
  generalize str (putL (x 0)) = s0 at HP0 hall z0
  generalize str (putL (x 1)) = s1 at HP1 hall z1
  generalize str (putL (x 2)) = s2 at HP2 hall z2
  generalize str (putL (x 3)) = s3 at HP3 hall z3
  generalize str (putV x 4) = S at hall ⊢
  have add1 : ∀ w, Sem.run Tryz.prog (Op.stringOp .add s0 s1) w = .ok (.string (s0 ++ s1)) w := fun w => run_string_add_sum w _ _ (by omega)
  have add2 : ∀ w, Sem.run Tryz.prog (Op.stringOp .add (s0 ++ s1) s2) w = .ok (.string (s0 ++ s1 ++ s2)) w := fun w => run_string_add_sum w _ _ (by rw [size_app]; omega)
  have add3 : ∀ w, Sem.run Tryz.prog (Op.stringOp .add (s0 ++ s1 ++ s2) s3) w = .ok (.string S) w := fun w => by rw [← hall]; exact run_string_add_sum w _ _ (by rw [size_app, size_app]; omega)
  clear hz hall z0 z1 z2 z3 hx
  unfold boxR at hb hX
  dsimp only at hb hX
  obtain ⟨a0, e0⟩ : ∃ a : Int, a = x 0 := ⟨_, rfl⟩
  obtain ⟨a1, e1⟩ : ∃ a : Int, a = x 1 := ⟨_, rfl⟩
  obtain ⟨a2, e2⟩ : ∃ a : Int, a = x 2 := ⟨_, rfl⟩
  obtain ⟨a3, e3⟩ : ∃ a : Int, a = x 3 := ⟨_, rfl⟩
  rw [← e0] at HP0
  rw [← e1] at HP1
  rw [← e2] at HP2
  rw [← e3] at HP3
  rw [← e0, ← e1, ← e2, ← e3] at hb hX ⊢
  clear e0 e1 e2 e3
  unfold vec
  go_enter Tryz.func54, Tryz.ntmps54
  go_upto_region 1 with fail
  obtain ⟨T, hT⟩ : ∃ T, T = w.heap.size := ⟨_, rfl⟩
  rw [← hT] at hX ⊢
  generalize w.alloc _ = w1 at hb hX ⊢
  have lT := (Array.getElem?_eq_some_iff.1 hX).1
  have C0 := Quiet.cell lT (cell_at (i := 0) hX rfl)
  have C1 := Quiet.cell lT (cell_at (i := 1) hX rfl)
  have C2 := Quiet.cell lT (cell_at (i := 2) hX rfl)
  have C3 := Quiet.cell lT (cell_at (i := 3) hX rfl)
  have HB := Lib.hid hb
  clear hb hX hT lT
  refine Quiet.region (by kernel_rfl) (by kernel_rfl) ?_
  repeat (go_big_quiet_step (first | (go_at_call 55; (first | (with_reducible exact Quiet.calls (HP0.out _)) | (with_reducible exact Quiet.calls (HP1.out _)) | (with_reducible exact Quiet.calls (HP2.out _)) | (with_reducible exact Quiet.calls (HP3.out _))))))
  refine wpQuiet_nil ?_
  rintro _ ⟨pq, rfl⟩
  have hq := pq.below
  generalize pq.world = w2 at hq ⊢
  clear C0 C1 C2 C3
  go_wp2
  go_ret
  exact ⟨rfl, grows HB.out hq⟩
end Go.Proofs.YtbilkeadhflibaaGreatDoor.Job
