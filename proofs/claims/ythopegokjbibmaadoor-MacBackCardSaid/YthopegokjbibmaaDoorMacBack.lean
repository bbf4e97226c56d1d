/-
  demesnelaw07.MacBack, for every input: what is put of a token that may be is got where it stands; no beginning of it is one (the law answers true, and its arguments read as before).
  Conditions: none beyond the row's own (the reach; what the row lists, tied by the card).
-/
import Derived.Test.YthopegokjbibmaaDoorMExam
import Derived.Test.YthopegokjbibmaaDoorMArgs
import Derived.Test.YthopegokjbibmaaDoorMMade
import Derived.Test.YthopegokjbibmaaDoorMEq
import Derived.Test.YthopegokjbibmaaDoorHRoots
import Derived.Test.YthopegokjbibmaaDoorEnd
import Derived.Test.YthopegokjbibmaaDoorTie
import Derived.Test.YthopegokjbibmaaDoorCards
import Derived.LaidMore
import Derived.Lay
import Derived.PlainAid
import Derived.SevenTiedAt
import Derived.Stop.Joined
namespace Go.Proofs.YthopegokjbibmaaDoor.macBack
open Go.RowKit Go.Proofs.YthopegokjbibmaaDoor.Sha Go.Proofs.YthopegokjbibmaaDoor.Mac
open Go.Proofs.YthopegokjbibmaaDoor.Boxes (cells3 keep)

theorem key_size (key : ByteArray) (m : Nat) (hm : m ≤ 100) : (key.extract 0 m).size ≤ 1125899906842624 := by rw [ByteArray.size_extract]; omega
theorem form_ab {ls : List Cav} {sig : List UInt8} (hm : mayL ls = true) (hs : sig.length = 32) : formL [206, 177, 206, 178] ls sig = true := by
  unfold formL
  rw [hm, hs, show Word.right [206, 177, 206, 178] = true by decide +kernel]
  rfl
/-- A token that may be, its form, what Get tells of it between other bytes, and of its beginnings. -/
theorem forms (S : ByteArray) (ls : List Cav) (hm : mayL ls = true) (hS : S.size = 32) (hfair : ∀ c ∈ ls, Mac.Fair c) :
    ∃ P : ByteArray, 0 < P.size ∧ P.size ≤ 1000 ∧
      (∀ w v, Row w v ls → Calls Tryd.prog 24 #[.agg #[.string ⟨#[206, 177, 206, 178]⟩, v, .string S]] w fun e w' => e = .returned (.string P) ∧ Below w.heap.size w w') ∧
      (∀ (ahead behind : ByteArray), ahead.size ≤ 140737488351232 → behind.size ≤ 140737488351232 → ∀ w, Calls Tryd.prog 13 #[.string (ahead ++ P ++ behind), .int .i64 (ahead.size : Int)] w fun e w' =>
        (∃ a c, e = .returned (.tuple #[.agg #[.string ⟨#[206, 177, 206, 178]⟩, .slice a ls.length c, .string S], .int .i64 ((ahead.size : Int) + (P.size : Int)), .bool true]) ∧ Row w' (.slice a ls.length c) ls) ∧ Below w.heap.size w w') ∧
      (∀ k, k < P.size → ∀ w, Calls Tryd.prog 13 #[.string (P.extract 0 k), .int .i64 0] w fun e w' => e = .returned (.tuple #[.agg #[.string ⟨#[]⟩, .slice none 0 0, .string ⟨#[]⟩], .int .i64 0, .bool false]) ∧ Below w.heap.size w w') := by
  have hf : formL [206, 177, 206, 178] ls S.data.toList = true := form_ab hm (by rw [size_list]; exact hS)
  have hlen : (putT [206, 177, 206, 178] ls S.data.toList).length ≤ 1000 ∧ 0 < (putT [206, 177, 206, 178] ls S.data.toList).length := by
    unfold putT
    rw [if_pos hf]
    obtain ⟨_, h8, _, h32⟩ := form_parts hf
    simp only [List.length_append, h32]
    have h1 := Wire.putL_ten (u := [(206 : UInt8), 177, 206, 178].length) (by decide)
    have h2 := Wire.putL_ten (u := ls.length) (by omega)
    have h3 := bodyL_len hfair
    simp only [List.length_cons, List.length_nil] at h1 ⊢
    omega
  refine ⟨str (putT [206, 177, 206, 178] ls S.data.toList), by rw [str_size]; exact hlen.2, by rw [str_size]; exact hlen.1, fun w v hv => ?_, fun ahead behind ha hb w => ?_, fun k hk w => ?_⟩
  · exact put_any ⟨#[206, 177, 206, 178]⟩ v ls S w hv hv.len
  · have hd : (ahead ++ str (putT [206, 177, 206, 178] ls S.data.toList) ++ behind).data.toList.drop ahead.size = putT [206, 177, 206, 178] ls S.data.toList ++ behind.data.toList := by
      simp [str]
    obtain ⟨a, b, q, hg, hten, hsig, hq, hpa, hab, hbq⟩ := get_put hf hfair hd
    have hsz : (ahead ++ str (putT [206, 177, 206, 178] ls S.data.toList) ++ behind).size = ahead.size + (putT [206, 177, 206, 178] ls S.data.toList).length + behind.size := by rw [ByteArray.size_append, ByteArray.size_append, str_size]
    refine (get_any _ (by rw [hsz]; omega) _ w).mono ?_
    rintro e w' h
    rw [hg] at h
    obtain ⟨⟨v, rfl, hown⟩, hbw⟩ := h
    have hrow := hown.row hfair
    obtain ⟨a', c, rfl, _⟩ := hown.slice
    refine ⟨⟨a', c, ?_, hrow⟩, hbw⟩
    have e1 : (ahead ++ str (putT [206, 177, 206, 178] ls S.data.toList) ++ behind).extract a b = ⟨#[206, 177, 206, 178]⟩ := (extract_of hten).trans rfl
    have e2 : (ahead ++ str (putT [206, 177, 206, 178] ls S.data.toList) ++ behind).extract q (q + 32) = S := by
      rw [extract_of (l := S.data.toList) (by rw [Nat.add_sub_cancel_left]; exact hsig), str_of]
    simp only [e1, e2]
    rw [hq, str_size, Int.natCast_add]
  · rw [str_size] at hk
    have he : (str (putT [206, 177, 206, 178] ls S.data.toList)).extract 0 k = str ((putT [206, 177, 206, 178] ls S.data.toList).take k) := extract_of (by rw [str_toList, List.drop_zero, Nat.sub_zero])
    rw [he]
    have := get_any (str ((putT [206, 177, 206, 178] ls S.data.toList).take k)) (by rw [str_size, List.length_take]; omega) 0 w
    rw [str_toList, get_torn hf hfair hk] at this
    exact this
set_option maxHeartbeats 4000000 in
set_option maxRecDepth 100000 in
theorem walk (key0 : ByteArray) (hk0 : key0.size ≤ 140737488351232) (v : Value) (ls : List Cav) (ahead : ByteArray) (ha : ahead.size ≤ 140737488351232) (behind : ByteArray) (hbe : behind.size ≤ 140737488351232) (cut : Int) (hc0 : 0 ≤ cut) (hc1 : cut ≤ 255) (w : World) (hR : Roots w) (hv : Row w v ls) :
    Calls Tryd.prog 6 #[.string key0, v, .string ahead, .string behind, .int .u8 cut] w fun e w' => e = .returned (.bool true) ∧ Below w.heap.size w w' := by
  obtain ⟨a, cap, rfl, hcap, hm⟩ := hv.slice
  have hlen := hv.len
  obtain ⟨m, hmm⟩ : ∃ m, m = min key0.size 100 := ⟨_, rfl⟩
  have hmin : min (key0.size : Int) 100 = (m : Int) := by omega
  have hmc : (m : Int) ≤ (key0.size : Int) := by omega
  have hks := key_size key0 m (by omega)
  obtain ⟨key, hkey⟩ : ∃ key, key0.extract 0 m = key := ⟨_, rfl⟩
  rw [hkey] at hks
  have HNar := Lib.hid fun w' (h : Roots w') (hb : Below w.heap.size w w') => narrowed_any key ⟨#[206, 177, 206, 178]⟩ hks (show 4 ≤ 1125899906842624 by decide) _ ls w' h (hv.below hb)
  obtain ⟨S, hS⟩ : ∃ S, str (chainL (signL key.data.toList (⟨#[206, 177, 206, 178]⟩ : ByteArray).data.toList) (madeL ls)) = S := ⟨_, rfl⟩
  rw [hS] at HNar
  have hSz : S.size = 32 := by rw [← hS, str_size]; exact chainL_len (signL_len _ _) _
  have hfair := made_fair hv.fair
  have HFair := Lib.hid hfair
  obtain ⟨P, hP0, hP1, xPut, xGet, xTorn⟩ := forms S (madeL ls) (made_may ls) hSz hfair
  have HPut := Lib.hid xPut
  have HGet := Lib.hid (xGet ahead behind ha hbe)
  have HTorn := Lib.hid xTorn
  obtain ⟨ms, hms⟩ : ∃ ms, madeL ls = ms := ⟨_, rfl⟩
  rw [hms] at HNar HFair HPut HGet
  obtain ⟨q, hq⟩ : ∃ q, ms.length = q := ⟨_, rfl⟩
  have hq8 : q ≤ 8 := by rw [← hq, ← hms, madeL_len]; omega
  rw [hq] at HGet
  have HQ := Lib.hid hq
  have hPne : (P.toList == []) = false := by
    cases h : P.toList with
    | nil =>
      rw [Lib.toList_data] at h
      have := congrArg List.length h
      rw [size_list, List.length_nil] at this
      omega
    | cons _ _ => rfl
  have HR := Lib.hid hR
  clear hR hv hS hmm hms hq hfair xPut xGet xTorn
  go_enter Tryd.func6, Tryd.ntmps6
  go_wp2_with fail
  with_reducible refine (examples_any _ HR.out).mono ?_
  rintro e w1 ⟨rfl, b1⟩
  go_wp2_with fail
  clear hkey hmin hmc
  with_reducible refine (HNar.out _ (HR.out.below b1) b1).mono ?_
  rintro e w2 ⟨⟨v2, rfl, hown⟩, b2⟩
  have row2 := hown.row HFair.out
  obtain ⟨a2, cap2, hv2, _⟩ := hown.slice
  rw [HQ.out] at hv2
  subst hv2
  have b12 := b1.trans (b2.mono b1.size)
  have bA : Below w2.heap.size w2 (w2.alloc (.cells #[.string ⟨#[206, 177, 206, 178]⟩, .slice a2 q cap2, .string S] 24)) := (Below.refl _ _).alloc (Nat.le_refl _) _
  have t12 := heap_alloc_new w2 (.cells #[.string ⟨#[206, 177, 206, 178]⟩, .slice a2 q cap2, .string S] 24)
  have HB := Lib.hid (b12.trans (bA.mono b12.size))
  have ROW2 := Lib.hid (row2.below bA)
  have T12 := Lib.hid t12
  clear hown row2 b1 b2 b12 bA t12 HNar HR hcap hm
  go_wp2_with fail
  obtain ⟨V, hV⟩ : ∃ V, V = w2.alloc (.cells #[.string ⟨#[206, 177, 206, 178]⟩, .slice a2 q cap2, .string S] 24) := ⟨_, rfl⟩
  rw [← hV] at HB ROW2 T12 ⊢
  clear hV
  with_reducible refine (HPut.out _ _ ROW2.out).mono ?_
  rintro e w3 ⟨rfl, b3⟩
  go_wp2_with fail
  with_reducible refine (HGet.out _).mono ?_
  rintro e w4 ⟨⟨a4, cap4, rfl, row4⟩, b4⟩
  have b34 := b3.trans (b4.mono b3.size)
  have bB : Below w4.heap.size w4 (w4.alloc (.cells #[.string ⟨#[206, 177, 206, 178]⟩, .slice a4 q cap4, .string S] 24)) := (Below.refl _ _).alloc (Nat.le_refl _) _
  have b5 := b34.trans (bB.mono b34.size)
  have t14 := heap_alloc_new w4 (.cells #[.string ⟨#[206, 177, 206, 178]⟩, .slice a4 q cap4, .string S] 24)
  have t12' := keep T12.out b5
  obtain ⟨x0, x1, x2, _⟩ := cells3 t12'
  obtain ⟨x3, x4, x5, _⟩ := cells3 t14
  have RA := Lib.hid (ROW2.out.below b5)
  have RB := Lib.hid (row4.below bB)
  have HBB := Lib.hid (HB.out.trans (b5.mono HB.out.size))
  clear b3 b4 b34 bB b5 HB ROW2 T12 row4 HPut HGet
  go_wp2_with fail
  obtain ⟨U, hU⟩ : ∃ U, U = w4.alloc (.cells #[.string ⟨#[206, 177, 206, 178]⟩, .slice a4 q cap4, .string S] 24) := ⟨_, rfl⟩
  rw [← hU] at t14 t12' RA RB HBB ⊢
  clear hU x0 x1 x2 x3 x4 x5
  obtain ⟨r, hr⟩ : ∃ r : Nat, (r : Int) = cut % (P.size : Int) := ⟨(cut % (P.size : Int)).toNat, by have := Int.emod_nonneg cut (b := (P.size : Int)) (by omega); omega⟩
  have hrlt : r < P.size := by have := Int.emod_lt_of_pos cut (b := (P.size : Int)) (by omega); omega
  have hrem : cut % (P.size : Int) = (r : Int) := hr.symm
  have htrem : cut.tmod (P.size : Int) = (r : Int) := by rw [Int.tmod_eq_emod_of_nonneg hc0, hrem]
  obtain ⟨kk, hkk⟩ : ∃ kk : Nat, kk + 1 + r = P.size := ⟨P.size - 1 - r, by omega⟩
  have hkz : (P.size : Int) - 1 - (r : Int) = (kk : Int) := by omega
  have hnz : ((P.size : Int) == 0) = false := by rw [beq_eq_false_iff_ne]; omega
  have hkP : (kk : Int) ≤ (P.size : Int) := by omega
  have HT := Lib.hid (HTorn.out kk (by omega))
  have H12 := Lib.hid t12'
  have H14 := Lib.hid t14
  clear HTorn hr t12' t14
  go_loopw [17] (fun i wr => ∃ k : Nat, k ≤ q ∧ i = .int .i64 k ∧ Below U.heap.size U wr) (fun i _ => q - (intOf i).toNat)
  case atStart => exact ⟨0, Nat.zero_le _, rfl, Below.refl _ _⟩
  case round =>
    obtain ⟨k, hk, rfl, hb⟩ := hrel
    have y12 := keep H12.out hb
    have y14 := keep H14.out hb
    obtain ⟨_, x1, _⟩ := cells3 y12
    obtain ⟨_, x4, _⟩ := cells3 y14
    by_cases hlt : k < q
    · have hltz : (k : Int) < (q : Int) := by omega
      have hlm : k < ms.length := by rw [HQ.out]; exact hlt
      obtain ⟨g2, o2, rfl, hg2, cs2⟩ := (RA.out.below hb).cells hlm
      obtain ⟨g4, o4, rfl, hg4, cs4⟩ := (RB.out.below hb).cells hlm
      obtain ⟨x, hx⟩ : ∃ x, ms[k]? = some x := ⟨_, List.getElem?_eq_getElem hlm⟩
      obtain ⟨_, z0, z1⟩ := cs2 k x hx
      obtain ⟨_, z2, z3⟩ := cs4 k x hx
      have E1 : ∀ w, (binOp .neq 27 (.agg #[.int .i64 x.1, .int .u64 (x.2 : Int)]) (.agg #[.int .i64 x.1, .int .u64 (x.2 : Int)])).run Tryd.prog w = .ok (.bool false) w := fun w => by
        have := neq_cav x x w
        rwa [eqC_self] at this
      obtain ⟨n1, n2⟩ := x
      simp only at z0 z1 z2 z3 E1
      have l1 := Quiet.cell (a := ⟨w2.heap.size, 1, none⟩) (Array.getElem?_eq_some_iff.1 y12).1 x1
      have l4 := Quiet.cell (a := ⟨w4.heap.size, 1, none⟩) (Array.getElem?_eq_some_iff.1 y14).1 x4
      have l5 := Quiet.cell (a := ⟨g2, o2 + k * 2, none⟩) hg2 z0
      have l6 := Quiet.cell (a := ⟨g2, o2 + k * 2 + 1, none⟩) hg2 z1
      have l7 := Quiet.cell (a := ⟨g4, o4 + k * 2, none⟩) hg4 z2
      have l8 := Quiet.cell (a := ⟨g4, o4 + k * 2 + 1, none⟩) hg4 z3
      clear hx cs2 cs4 y12 y14 z0 z1 z2 z3 hg2 hg4
      go_wp2
      refine Quiet.region (by kernel_rfl) (by kernel_rfl) ?_
      repeat (go_big_quiet_step (fail))
      refine wpQuiet_nil ?_
      rintro _ ⟨pq, rfl⟩
      have hq := pq.below
      generalize pq.world = wq at hq ⊢
      clear l1 l4 l5 l6 l7 l8 x1 x4
      go_wp2
      go_roundw
      case rel => exact ⟨k + 1, by omega, by go_num, hb.trans (hq.mono hb.size)⟩
      case measure => simp [intOf]; omega
    · have hltz : ¬ (k : Int) < (q : Int) := by omega
      go_wp2_with fail
      with_reducible refine (HT.out _).mono ?_
      rintro e w9 ⟨rfl, b9⟩
      have hb9 := hb.trans (b9.mono hb.size)
      have hb10 := hb9.alloc hb9.size (.cells #[.string ⟨#[]⟩, .slice none 0 0, .string ⟨#[]⟩] 24)
      go_wp2
      go_ret
      exact ⟨rfl, HBB.out.trans (hb10.mono HBB.out.size)⟩
open Go.ChangeShapes Go.WideShapes Go.ChangeAt
set_option maxRecDepth 100000 in
theorem lifted (os : Os) (started : os.Started) (H : Type) (enc : TypeId × Value → H) :
    ReturnsInHanded {} Tryd.checked os 6 .any (fun w args => (Rows.macBackSpec.pre enc Tryd.prog Tryd.f6 Rows.macBackRow.domain false w args ∧ laidMetH Tryd.prog Rows.macBackRow.laid w) ∧ sizedMet enc Tryd.prog Tryd.f6 (OpenSpec.ofChange Rows.macBackSpec) false w args)
      (Rows.macBackSpec.post enc Tryd.prog Tryd.f6 false true false false) := by
  refine returnsInHanded_of_change_and (C := Tryd.checked) (X := fun w _ => laidMetH Tryd.prog Rows.macBackRow.laid w) (fun _ _ _ hh h => h.of_heap hh) Ends.own started (by kernel_rfl) Tryd.func6
    (ChangeSpec.witness_shaped (enc := enc) (C := Tryd.checked) (os := os) (X := fun w _ => laidMetH Tryd.prog Rows.macBackRow.laid w) false (World.laidAll Tryd.prog os Rows.macBackRow.laid) #[.string ⟨#[]⟩, .slice none 0 0, .string ⟨#[]⟩, .string ⟨#[]⟩, .int .u8 0] 8 (World.laidAll_os _ _ _)
      (World.shaped_of_ZipB (by kernel_rfl) (by kernel_rfl)) (by kernel_rfl) (by kernel_rfl) (by kernel_rfl)
      (by rw [MakeChecks.laidMetH_plain _ _ _ (by kernel_rfl)]; exact laidMet_laidAll _ (by kernel_rfl) (by kernel_rfl))) ?_
  intro W base args ds gs before hval0 hW _ hsz0 hL _
  have hval : ∀ (j : Nat) t v, Tryd.f6.params[j]? = some t → args[j]? = some v → Value.okWide Tryd.prog W .any base t v := hval0
  have hsz : (DataW.weightsEach Tryd.prog (Tryd.f6.params.toList ++ Rows.macBackSpec.plain.varTypes Tryd.prog) (ds ++ gs)).all (· ≤ reachBytes) = true := hsz0
  have hW' := hW
  obtain ⟨p, q, hA0, hV, rfl, hfz, hnd⟩ := hW
  have hA : DataW.TrodAll enc Tryd.prog W 0 (fun _ => true) true Tryd.f6.params.toList args.toList ds p := hA0
  rw [Tryd.params6] at hA hval hsz
  obtain ⟨v0, vs0, d0, ds0, p0, q0, hargs, rfl, rfl, h0, r0⟩ := trodAll_cons hA
  obtain ⟨v1, vs1, d1, ds1, p1, q1, rfl, rfl, rfl, h1, r1⟩ := trodAll_cons r0
  obtain ⟨v2, vs2, d2, ds2, p2, q2, rfl, rfl, rfl, h2, r2⟩ := trodAll_cons r1
  obtain ⟨v3, vs3, d3, ds3, p3, q3, rfl, rfl, rfl, h3, r3⟩ := trodAll_cons r2
  obtain ⟨v4, vs4, d4, ds4, p4, q4, rfl, rfl, rfl, h4, r4⟩ := trodAll_cons r3
  obtain ⟨rfl, rfl, rfl⟩ := trodAll_nil r4
  obtain rfl : args = #[v0, v1, v2, v3, v4] := by cases args; simp_all
  obtain ⟨rfl, rfl⟩ := trodVars_none hV
  obtain ⟨a0, rfl, rfl, rfl, w0⟩ := Go.ChangeMaps.open_string Tryd.underlying9 (hval 0 9 v0 rfl rfl) h0
  obtain ⟨a1, w1⟩ := Mac.open_cavs (hval 1 22 v1 rfl rfl) h1
  obtain ⟨a2, rfl, rfl, rfl, w2⟩ := Go.ChangeMaps.open_string Tryd.underlying9 (hval 2 9 v2 rfl rfl) h2
  obtain ⟨a3, rfl, rfl, rfl, w3⟩ := Go.ChangeMaps.open_string Tryd.underlying9 (hval 3 9 v3 rfl rfl) h3
  obtain ⟨a4, rfl, rfl, rfl, w4⟩ := open_int Tryd.underlying5 (hval 4 5 v4 rfl rfl) h4
  have b0 : a0.size ≤ 140737488351232 := by have := sized_string hsz (j := 0) rfl rfl; rw [Array.length_toList] at this; exact this
  have b2 : a2.size ≤ 140737488351232 := by have := sized_string hsz (j := 2) rfl rfl; rw [Array.length_toList] at this; exact this
  have b3 : a3.size ≤ 140737488351232 := by have := sized_string hsz (j := 3) rfl rfl; rw [Array.length_toList] at this; exact this
  have b4 := bounds_u8 w4
  refine (walk a0 b0 v1 a1 a2 b2 a3 b3 a4 b4.1 b4.2 W (Sha.roots_met (by kernel_rfl) hL) w1).mono fun e W' ⟨he, hb⟩ => ?_
  subst he
  exact ⟨_, rfl, Ends.law_end Ends.laidOut (by rw [Tryd.params6]; decide +kernel) rfl (by kernel_rfl) Tryd.underlying4 hW' rfl hb⟩

theorem row : Rows.MacBackSaid :=
  OpenClaim.holds_of_wide 6 Tryd.f6 rfl rfl rfl rfl rfl rfl rfl ⟨rfl, rfl, rfl, rfl, rfl⟩ rfl rfl rfl rfl rfl (by kernel_rfl) Tryd.func6 (by kernel_rfl)
    (of_decide_eq_true (by kernel_rfl)) (by unfold Func.isWrapper; first | (rw [if_pos (by decide +kernel)]; kernel_rfl) | (rw [if_neg (by decide +kernel)]; exact ⟨rfl, rfl⟩))
    (fun os started H enc _ => lifted os started H enc)

/-- The statement: the tied card. -/
theorem proved : Rows.MacBackCardSaid :=
  Claim7.holds_tied_plain_at .later [] [.data, .data] true Rows.macBackCard.stood.harness false row (fun _ h => by cases h) (by kernel_rfl) (fun _ h => by cases h) macBack_row_tie rfl ⟨rfl, rfl⟩ (by kernel_rfl) rfl
    (fun f fn hf hfn => by
      obtain rfl : f = 6 := Option.some.inj ((show Tryd.prog.funcNamed "demesne/demesnelaw07.MacBack" = some 6 by kernel_rfl).symm.trans hf) |>.symm
      obtain rfl : fn = Tryd.f6 := (Option.some.inj (Tryd.func6.symm.trans hfn)).symm
      exact ⟨by kernel_rfl, fun j t ht => by
        rw [Tryd.params6] at ht
        have hm : t ∈ [9, 22, 9, 9, 5] := by simpa using Array.mem_of_getElem? ht
        have hall : ([9, 22, 9, 9, 5].all fun u => !Tryd.prog.wantsStandIn u) = true := by kernel_rfl
        exact (show Tryd.prog.wantsStandIn t = false by simpa using List.all_eq_true.1 hall t hm)⟩)
    (by kernel_rfl)
end Go.Proofs.YthopegokjbibmaaDoor.macBack
