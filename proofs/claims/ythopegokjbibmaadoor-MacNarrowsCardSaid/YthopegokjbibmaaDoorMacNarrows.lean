/-
  demesnelaw07.MacNarrows, for every input: a token that is narrowed allows no more: what it allows the one that it was made of does, and the caveat alone (the law answers true, and its arguments read as before).
  Conditions: none beyond the row's own (the reach; what the row lists, tied by the card).
-/
import Derived.Test.YthopegokjbibmaaDoorMExam
import Derived.Test.YthopegokjbibmaaDoorMArgs
import Derived.Test.YthopegokjbibmaaDoorMTake
import Derived.Test.YthopegokjbibmaaDoorHRoots
import Derived.Test.YthopegokjbibmaaDoorEnd
import Derived.Test.YthopegokjbibmaaDoorTie
import Derived.Test.YthopegokjbibmaaDoorCards
import Derived.LaidMore
import Derived.Lay
import Derived.PlainAid
import Derived.SevenTiedAt
import Derived.Stop.Joined
namespace Go.Proofs.YthopegokjbibmaaDoor.macNarrows
open Go.RowKit Go.Proofs.YthopegokjbibmaaDoor.Sha Go.Proofs.YthopegokjbibmaaDoor.Mac
open Go.Proofs.YthopegokjbibmaaDoor.Boxes (cells3 keep)

theorem allows_more (ls : List Cav) (c : Cav) (r u : Nat) : allowsL (ls ++ [c]) r u = (allowsL ls r u && allowsL [c] r u) := by unfold allowsL; rw [List.all_append]
set_option maxHeartbeats 4000000 in
set_option maxRecDepth 100000 in
theorem walk (v : Value) (ls0 : List Cav) (c : Cav) (hc : Mac.Fair c) (r0 : Int) (hr0 : 0 ≤ r0) (hr1 : r0 ≤ 18446744073709551615) (u0 : Int) (hu0 : 0 ≤ u0) (hu1 : u0 ≤ 18446744073709551615) (w : World) (hR : Roots w) (hv : Row w v ls0) :
    Calls Tryd.prog 5 #[v, Mac.val c, .int .u64 r0, .int .u64 u0] w fun e w' => e = .returned (.bool true) ∧ Below w.heap.size w w' := by
  obtain ⟨r, rfl⟩ := Int.eq_ofNat_of_zero_le hr0
  obtain ⟨u, rfl⟩ := Int.eq_ofNat_of_zero_le hu0
  have hr : r < 18446744073709551616 := by omega
  obtain ⟨x1, x2⟩ := c
  obtain ⟨a, cap, rfl, hcap, hm⟩ := hv.slice
  have hlen := hv.len
  obtain ⟨m, hmm⟩ : ∃ m, m = min ls0.length 8 := ⟨_, rfl⟩
  have hmin : min (ls0.length : Int) 8 = (m : Int) := by omega
  have hmc : (m : Int) ≤ (cap : Int) := by omega
  have hm8 : m ≤ 8 := by omega
  have HV := Lib.hid (hv.take m (by omega))
  have hll : (ls0.take m).length = m := by rw [List.length_take]; omega
  obtain ⟨ls, hls⟩ : ∃ ls, ls0.take m = ls := ⟨_, rfl⟩
  rw [hls] at HV hll
  have hb0 : Below w.heap.size w (w.alloc (.cells #[.int .i64 x1, .int .u64 (x2 : Int)] 27)) := (Below.refl _ _).alloc (Nat.le_refl _) _
  have hh0 := heap_alloc_new w (.cells #[.int .i64 x1, .int .u64 (x2 : Int)] 27)
  have HR := Lib.hid (hR.below hb0)
  have HF := Lib.hid hc
  clear hR hv hls hmm hr0 hr1 hu0 hu1 hc
  unfold Mac.val
  go_enter Tryd.func5, Tryd.ntmps5
  go_wp2_with fail
  with_reducible refine (examples_any _ HR.out).mono ?_
  rintro e w1 ⟨rfl, b1⟩
  have hb1 := hb0.trans (b1.mono hb0.size)
  have hh1 := keep hh0 b1
  have ht := heap_alloc_new w1 (.cells #[.string ⟨#[]⟩, .slice a m cap, .string ⟨#[]⟩] 24)
  have hbt : Below w1.heap.size w1 (w1.alloc (.cells #[.string ⟨#[]⟩, .slice a m cap, .string ⟨#[]⟩] 24)) := (Below.refl _ _).alloc (Nat.le_refl _) _
  have hh2 := keep hh1 hbt
  have hb2 := hb1.trans (hbt.mono hb1.size)
  obtain ⟨k0, k1, _⟩ := cells2 hh2
  have HN := Lib.hid (narrow_any ⟨#[]⟩ ⟨#[]⟩ (.slice a m cap) ls (x1, x2) HF.out (show 0 ≤ 1125899906842624 by decide) _ (HR.out.below (b1.trans (hbt.mono b1.size))) (HV.out.below hb2) (by omega))
  unfold Mac.val at HN
  go_wp2_with fail
  obtain ⟨W, hW⟩ : ∃ W, W = w1.alloc (.cells #[.string ⟨#[]⟩, .slice a m cap, .string ⟨#[]⟩] 24) := ⟨_, rfl⟩
  rw [← hW] at HN ht hh2 hb2 ⊢
  clear hW hbt hb1 hh1 k0 k1 b1
  with_reducible refine HN.out.mono ?_
  rintro e w2 ⟨⟨v2, rfl, hown⟩, b2⟩
  have ROW2 := Lib.hid (hown.row (fun y hy => by
    rcases List.mem_append.1 hy with h | h
    · exact HV.out.fair y h
    · rw [List.mem_singleton] at h; rw [h]; exact HF.out))
  obtain ⟨a2, cap2, hv2, _⟩ := hown.slice
  obtain ⟨n2, hn2⟩ : ∃ n, (ls ++ [(x1, x2)]).length = n := ⟨_, rfl⟩
  rw [hn2] at hv2
  subst hv2
  obtain ⟨S2, hS2⟩ : ∃ S, str (signL (⟨#[]⟩ : ByteArray).data.toList (putC (x1, x2))) = S := ⟨_, rfl⟩
  rw [hS2] at *
  clear hown hn2 hS2 HN
  -- the narrowed one, and the caveat alone
  have b2a : Below W.heap.size W (w2.alloc (.cells #[.string ⟨#[]⟩, .slice a2 n2 cap2, .string S2] 24)) := b2.alloc b2.size _
  have t2 := heap_alloc_new w2 (.cells #[.string ⟨#[]⟩, .slice a2 n2 cap2, .string S2] 24)
  obtain ⟨k0, k1, _⟩ := cells2 (keep hh2 b2a)
  have x3 := heap_alloc_new (w2.alloc (.cells #[.string ⟨#[]⟩, .slice a2 n2 cap2, .string S2] 24)) (.cells #[.int .i64 x1, .int .u64 (x2 : Int)] 27)
  rw [World.size_alloc] at x3
  have t4 := heap_alloc_new ((w2.alloc (.cells #[.string ⟨#[]⟩, .slice a2 n2 cap2, .string S2] 24)).alloc (.cells #[.int .i64 x1, .int .u64 (x2 : Int)] 27)) (.cells #[.string ⟨#[]⟩, .slice (some ⟨w2.heap.size + 1, 0, none⟩) 1 1, .string ⟨#[]⟩] 24)
  rw [World.size_alloc, World.size_alloc] at t4
  have b3a := b2a.alloc b2a.size (.cells #[.int .i64 x1, .int .u64 (x2 : Int)] 27)
  have b4a := b3a.alloc b3a.size (.cells #[.string ⟨#[]⟩, .slice (some ⟨w2.heap.size + 1, 0, none⟩) 1 1, .string ⟨#[]⟩] 24)
  go_wp2_with fail
  have u1 := keep ht b4a
  have u2 := (heap_alloc_old _ (.cells #[.string ⟨#[]⟩, .slice (some ⟨w2.heap.size + 1, 0, none⟩) 1 1, .string ⟨#[]⟩] 24) (by simp; omega)).trans ((heap_alloc_old _ (.cells #[.int .i64 x1, .int .u64 (x2 : Int)] 27) (by simp)).trans t2)
  have u3 := (heap_alloc_old _ (.cells #[.string ⟨#[]⟩, .slice (some ⟨w2.heap.size + 1, 0, none⟩) 1 1, .string ⟨#[]⟩] 24) (by simp)).trans x3
  have r2 := ROW2.out.below (((((Below.refl _ _).alloc (Nat.le_refl _) (.cells #[.string ⟨#[]⟩, .slice a2 n2 cap2, .string S2] 24)).alloc (by simp) (.cells #[.int .i64 x1, .int .u64 (x2 : Int)] 27)).alloc (by simp; omega) (.cells #[.string ⟨#[]⟩, .slice (some ⟨w2.heap.size + 1, 0, none⟩) 1 1, .string ⟨#[]⟩] 24)))
  obtain ⟨V, hV⟩ : ∃ V, V = ((w2.alloc (.cells #[.string ⟨#[]⟩, .slice a2 n2 cap2, .string S2] 24)).alloc (.cells #[.int .i64 x1, .int .u64 (x2 : Int)] 27)).alloc (.cells #[.string ⟨#[]⟩, .slice (some ⟨w2.heap.size + 1, 0, none⟩) 1 1, .string ⟨#[]⟩] 24) := ⟨_, rfl⟩
  rw [← hV] at u1 u2 u3 r2 t4 b4a ⊢
  have hbV := hb2.trans (b4a.mono hb2.size)
  have r1 := HV.out.below hbV
  have r3 : Row V (.slice (some ⟨w2.heap.size + 1, 0, none⟩) 1 1) [(x1, x2)] := by
    obtain ⟨q0, q1, _⟩ := cells2 u3
    refine .inr ⟨by simp, w2.heap.size + 1, 0, 1, rfl, (Array.getElem?_eq_some_iff.1 u3).1, by simp, by unfold maxLen; omega, fun j x hj => ?_⟩
    obtain ⟨hj0, rfl⟩ := List.getElem?_eq_some_iff.1 hj
    simp at hj0
    subst hj0
    exact ⟨HF.out, q0, q1⟩
  obtain ⟨A2, hA2⟩ : ∃ A, allowsL ls r u = A := ⟨_, rfl⟩
  obtain ⟨A3, hA3⟩ : ∃ A, allowsL [(x1, x2)] r u = A := ⟨_, rfl⟩
  have hA1 := allows_more ls (x1, x2) r u
  rw [hA2, hA3] at hA1
  have C1 : Hid (∀ q : Quiet.Behind V, Calls Tryd.prog 22 #[.agg #[.string ⟨#[]⟩, .slice a2 n2 cap2, .string S2], .int .u64 (r : Int), .int .u64 (u : Int)] q.world fun e w' => e = .returned (.bool (A2 && A3)) ∧ Below q.world.heap.size q.world w') := Lib.hid fun q => by
    rw [← hA1]; exact allows_any _ _ _ _ r u hr _ (r2.below q.below) (r2.below q.below).len
  have C2 : Hid (∀ q : Quiet.Behind V, Calls Tryd.prog 22 #[.agg #[.string ⟨#[]⟩, .slice a m cap, .string ⟨#[]⟩], .int .u64 (r : Int), .int .u64 (u : Int)] q.world fun e w' => e = .returned (.bool A2) ∧ Below q.world.heap.size q.world w') := Lib.hid fun q => by
    rw [← hA2]; exact allows_any _ _ _ _ r u hr _ (r1.below q.below) (r1.below q.below).len
  have C3 : Hid (∀ q : Quiet.Behind V, Calls Tryd.prog 22 #[.agg #[.string ⟨#[]⟩, .slice (some ⟨w2.heap.size + 1, 0, none⟩) 1 1, .string ⟨#[]⟩], .int .u64 (r : Int), .int .u64 (u : Int)] q.world fun e w' => e = .returned (.bool A3) ∧ Below q.world.heap.size q.world w') := Lib.hid fun q => by
    rw [← hA3]; exact allows_any _ _ _ _ r u hr _ (r3.below q.below) (r3.below q.below).len
  have C4 : Hid (∀ q : Quiet.Behind V, Calls Tryd.prog 22 #[.agg #[.string ⟨#[]⟩, .slice none 0 0, .string ⟨#[]⟩], .int .u64 (r : Int), .int .u64 (u : Int)] q.world fun e w' => e = .returned (.bool true) ∧ Below q.world.heap.size q.world w') := Lib.hid fun q =>
    allows_any _ _ [] _ r u hr _ (Row.nil _) (by simp)
  have HBV := Lib.hid hbV
  have q1 := fun i v (h : (#[Value.string ⟨#[]⟩, .slice a m cap, .string ⟨#[]⟩] : Array Value)[i]? = some v) => Quiet.cell (a := ⟨w1.heap.size, i, none⟩) (Array.getElem?_eq_some_iff.1 u1).1 (cell_at u1 h)
  have q2 := fun i v (h : (#[Value.string ⟨#[]⟩, .slice a2 n2 cap2, .string S2] : Array Value)[i]? = some v) => Quiet.cell (a := ⟨w2.heap.size, i, none⟩) (Array.getElem?_eq_some_iff.1 u2).1 (cell_at u2 h)
  have q4 := fun i v (h : (#[Value.string ⟨#[]⟩, .slice (some ⟨w2.heap.size + 1, 0, none⟩) 1 1, .string ⟨#[]⟩] : Array Value)[i]? = some v) => Quiet.cell (a := ⟨w2.heap.size + 1 + 1, i, none⟩) (Array.getElem?_eq_some_iff.1 t4).1 (cell_at t4 h)
  have q10 := q1 0 _ rfl
  have q11 := q1 1 _ rfl
  have q12 := q1 2 _ rfl
  have q20 := q2 0 _ rfl
  have q21 := q2 1 _ rfl
  have q22 := q2 2 _ rfl
  have q40 := q4 0 _ rfl
  have q41 := q4 1 _ rfl
  have q42 := q4 2 _ rfl
  clear hA1 hA2 hA3 r1 r2 r3 hV u1 u2 u3 t4 b4a b3a b2a t2 x3 k0 k1 hh2 ht hbV hb2 b2 hmin hmc hcap hm HV ROW2 HF hh0 hb0 hll q1 q2 q4 HR
  cases A2 <;> cases A3 <;>
  · simp only [Bool.and_true, Bool.and_false] at C1
    refine Quiet.region (by kernel_rfl) (by kernel_rfl) ?_
    repeat (go_big_quiet_step (first | (go_at_call 22; (with_reducible exact Quiet.calls (C1.out _))) | (go_at_call 22; (with_reducible exact Quiet.calls (C2.out _))) | (go_at_call 22; (with_reducible exact Quiet.calls (C3.out _))) | (go_at_call 22; (with_reducible exact Quiet.calls (C4.out _)))))
    refine wpQuiet_nil ?_
    rintro _ ⟨pq, rfl⟩
    have hq := pq.below
    generalize pq.world = wq at hq ⊢
    go_wp2
    go_ret
    exact ⟨rfl, HBV.out.trans (hq.mono HBV.out.size)⟩
open Go.ChangeShapes Go.WideShapes Go.ChangeAt
set_option maxRecDepth 100000 in
theorem lifted (os : Os) (started : os.Started) (H : Type) (enc : TypeId × Value → H) :
    ReturnsInHanded {} Tryd.checked os 5 .any (fun w args => (Rows.macNarrowsSpec.pre enc Tryd.prog Tryd.f5 Rows.macNarrowsRow.domain false w args ∧ laidMetH Tryd.prog Rows.macNarrowsRow.laid w) ∧ sizedMet enc Tryd.prog Tryd.f5 (OpenSpec.ofChange Rows.macNarrowsSpec) false w args)
      (Rows.macNarrowsSpec.post enc Tryd.prog Tryd.f5 false true false false) := by
  refine returnsInHanded_of_change_and (C := Tryd.checked) (X := fun w _ => laidMetH Tryd.prog Rows.macNarrowsRow.laid w) (fun _ _ _ hh h => h.of_heap hh) Ends.own started (by kernel_rfl) Tryd.func5
    (ChangeSpec.witness_shaped (enc := enc) (C := Tryd.checked) (os := os) (X := fun w _ => laidMetH Tryd.prog Rows.macNarrowsRow.laid w) false (World.laidAll Tryd.prog os Rows.macNarrowsRow.laid) #[.slice none 0 0, .agg #[.int .i64 0, .int .u64 0], .int .u64 0, .int .u64 0] 8 (World.laidAll_os _ _ _)
      (World.shaped_of_ZipB (by kernel_rfl) (by kernel_rfl)) (by kernel_rfl) (by kernel_rfl) (by kernel_rfl)
      (by rw [MakeChecks.laidMetH_plain _ _ _ (by kernel_rfl)]; exact laidMet_laidAll _ (by kernel_rfl) (by kernel_rfl))) ?_
  intro W base args ds gs before hval0 hW _ _ hL _
  have hval : ∀ (j : Nat) t v, Tryd.f5.params[j]? = some t → args[j]? = some v → Value.okWide Tryd.prog W .any base t v := hval0
  have hW' := hW
  obtain ⟨p, q, hA0, hV, rfl, hfz, hnd⟩ := hW
  have hA : DataW.TrodAll enc Tryd.prog W 0 (fun _ => true) true Tryd.f5.params.toList args.toList ds p := hA0
  rw [Tryd.params5] at hA hval
  obtain ⟨v0, vs0, d0, ds0, p0, q0, hargs, rfl, rfl, h0, r0⟩ := trodAll_cons hA
  obtain ⟨v1, vs1, d1, ds1, p1, q1, rfl, rfl, rfl, h1, r1⟩ := trodAll_cons r0
  obtain ⟨v2, vs2, d2, ds2, p2, q2, rfl, rfl, rfl, h2, r2⟩ := trodAll_cons r1
  obtain ⟨v3, vs3, d3, ds3, p3, q3, rfl, rfl, rfl, h3, r3⟩ := trodAll_cons r2
  obtain ⟨rfl, rfl, rfl⟩ := trodAll_nil r3
  obtain rfl : args = #[v0, v1, v2, v3] := by cases args; simp_all
  obtain ⟨rfl, rfl⟩ := trodVars_none hV
  obtain ⟨a0, w0⟩ := Mac.open_cavs (hval 0 22 v0 rfl rfl) h0
  obtain ⟨a1, rfl, w1⟩ := Mac.open_cav (hval 1 27 v1 rfl rfl) h1
  obtain ⟨a2, rfl, rfl, rfl, w2⟩ := open_int Tryd.underlying25 (hval 2 25 v2 rfl rfl) h2
  obtain ⟨a3, rfl, rfl, rfl, w3⟩ := open_int Tryd.underlying25 (hval 3 25 v3 rfl rfl) h3
  have b2 := bounds_u64 w2
  have b3 := bounds_u64 w3
  refine (walk v0 a0 a1 w1 a2 b2.1 b2.2 a3 b3.1 b3.2 W (Sha.roots_met (by kernel_rfl) hL) w0).mono fun e W' ⟨he, hb⟩ => ?_
  subst he
  exact ⟨_, rfl, Ends.law_end Ends.laidOut (by rw [Tryd.params5]; decide +kernel) rfl (by kernel_rfl) Tryd.underlying4 hW' rfl hb⟩

theorem row : Rows.MacNarrowsSaid :=
  OpenClaim.holds_of_wide 5 Tryd.f5 rfl rfl rfl rfl rfl rfl rfl ⟨rfl, rfl, rfl, rfl, rfl⟩ rfl rfl rfl rfl rfl (by kernel_rfl) Tryd.func5 (by kernel_rfl)
    (of_decide_eq_true (by kernel_rfl)) (by unfold Func.isWrapper; first | (rw [if_pos (by decide +kernel)]; kernel_rfl) | (rw [if_neg (by decide +kernel)]; exact ⟨rfl, rfl⟩))
    (fun os started H enc _ => lifted os started H enc)

/-- The statement: the tied card. -/
theorem proved : Rows.MacNarrowsCardSaid :=
  Claim7.holds_tied_plain_at .later [] [.data, .data] true Rows.macNarrowsCard.stood.harness false row (fun _ h => by cases h) (by kernel_rfl) (fun _ h => by cases h) macNarrows_row_tie rfl ⟨rfl, rfl⟩ (by kernel_rfl) rfl
    (fun f fn hf hfn => by
      obtain rfl : f = 5 := Option.some.inj ((show Tryd.prog.funcNamed "demesne/demesnelaw07.MacNarrows" = some 5 by kernel_rfl).symm.trans hf) |>.symm
      obtain rfl : fn = Tryd.f5 := (Option.some.inj (Tryd.func5.symm.trans hfn)).symm
      exact ⟨by kernel_rfl, fun j t ht => by
        rw [Tryd.params5] at ht
        have hm : t ∈ [22, 27, 25, 25] := by simpa using Array.mem_of_getElem? ht
        have hall : ([22, 27, 25, 25].all fun u => !Tryd.prog.wantsStandIn u) = true := by kernel_rfl
        exact (show Tryd.prog.wantsStandIn t = false by simpa using List.all_eq_true.1 hall t hm)⟩)
    (by kernel_rfl)
end Go.Proofs.YthopegokjbibmaaDoor.macNarrows
