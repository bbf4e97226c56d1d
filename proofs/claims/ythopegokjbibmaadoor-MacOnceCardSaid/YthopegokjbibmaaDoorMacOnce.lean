/-
  demesnelaw07.MacOnce, for every input: what is got is put as the bytes that stand there; what may not be is put as nothing (the law answers true, and its arguments read as before).
  Conditions: none beyond the row's own (the reach; what the row lists, tied by the card).
-/
import Derived.Test.YthopegokjbibmaaDoorMExam
import Derived.Test.YthopegokjbibmaaDoorMArgs
import Derived.Test.YthopegokjbibmaaDoorHRoots
import Derived.Test.YthopegokjbibmaaDoorEnd
import Derived.Test.YthopegokjbibmaaDoorTie
import Derived.Test.YthopegokjbibmaaDoorCards
import Derived.LaidMore
import Derived.Lay
import Derived.PlainAid
import Derived.SevenTiedAt
import Derived.Stop.Joined
namespace Go.Proofs.YthopegokjbibmaaDoor.macOnce
open Go.RowKit Go.Proofs.YthopegokjbibmaaDoor.Sha Go.Proofs.YthopegokjbibmaaDoor.Mac
open Go.Proofs.YthopegokjbibmaaDoor.Boxes (cells3 keep)

/-- A caveat of a kind that is known. -/
def plain (c : Cav) : Bool := decide (1 ≤ c.1) && decide (c.1 ≤ 2)
theorem plain_strange (c : Cav) : strange c = !plain c := by
  unfold strange plain
  by_cases h1 : c.1 = 1
  · simp [h1]
  · by_cases h2 : c.1 = 2
    · simp [h2]
    · by_cases h3 : 1 ≤ c.1
      · have : ¬ c.1 ≤ 2 := by omega
        simp [h1, h2, this]
      · simp [h1, h2, h3]
theorem may_plain (ls : List Cav) : mayL ls = (decide (ls.length ≤ 8) && ls.all plain) := by
  unfold mayL
  congr 1
  induction ls with
  | nil => rfl
  | cons c r ih => rw [List.any_cons, List.all_cons, ← ih, plain_strange]; simp
theorem all_take {ls : List Cav} {k : Nat} {x : Cav} (h : ls[k]? = some x) : (ls.take (k + 1)).all plain = ((ls.take k).all plain && plain x) := by
  rw [List.take_add_one, h, List.all_append]
  simp

/-- What stands behind the loop: the last expression. -/
def known (ls : List Cav) (k : Nat) : Bool := decide (ls.length ≤ 8) && (ls.take k).all plain
theorem known_next {ls : List Cav} {k : Nat} {x : Cav} (h : ls[k]? = some x) : known ls (k + 1) = (known ls k && plain x) := by unfold known; rw [all_take h, Bool.and_assoc]
theorem known_end (ls : List Cav) : known ls ls.length = mayL ls := by unfold known; rw [List.take_length, may_plain]
theorem put_nothing (ten : ByteArray) (v : Value) (ls : List Cav) (sig : ByteArray) (h : ¬ (mayL ls = true ∧ sig.size = 32)) (w : World) (hv : Row w v ls) :
    Calls Tryd.prog 24 #[.agg #[.string ten, v, .string sig]] w fun e w' => e = .returned (.string ⟨#[]⟩) ∧ Below w.heap.size w w' := by
  have := put_any ten v ls sig w hv hv.len
  rwa [show putT ten.data.toList ls sig.data.toList = [] by
    unfold putT
    rw [if_neg]
    intro hf
    obtain ⟨_, h8, hk, h32⟩ := form_parts hf
    refine h ⟨?_, by rw [← size_list]; exact h32⟩
    unfold formL at hf
    simp only [Bool.and_eq_true] at hf
    exact hf.2.1] at this
set_option maxHeartbeats 4000000 in
set_option maxRecDepth 100000 in
theorem walk (s : ByteArray) (hs : s.size ≤ 140737488351232) (at0 : Int) (_h0 : -9223372036854775808 ≤ at0) (_h1 : at0 ≤ 9223372036854775807) (ten : ByteArray) (v : Value) (ls : List Cav) (sig : ByteArray) (_ht : ten.size ≤ 140737488351232) (_hsg : sig.size ≤ 140737488351232) (w : World) (hR : Roots w) (hv : Row w v ls) :
    Calls Tryd.prog 7 #[.string s, .int .i64 at0, .agg #[.string ten, v, .string sig]] w fun e w' => e = .returned (.bool true) ∧ Below w.heap.size w w' := by
  obtain ⟨a, cap, rfl, hcap, hm⟩ := hv.slice
  have hlen := hv.len
  have hb0 : Below w.heap.size w (w.alloc (.cells #[.string ten, .slice a ls.length cap, .string sig] 24)) := (Below.refl _ _).alloc (Nat.le_refl _) _
  have hh0 := heap_alloc_new w (.cells #[.string ten, .slice a ls.length cap, .string sig] 24)
  have HR := Lib.hid (hR.below hb0)
  have HV := Lib.hid hv
  have HG := Lib.hid (get_any s (by omega) at0)
  obtain ⟨r, hr⟩ : ∃ r, getT s.data.toList at0 = r := ⟨_, rfl⟩
  rw [hr] at HG
  clear hR hv
  cases r with
  | none =>
    clear hr
    unfold TellsT at HG
    go_enter Tryd.func7, Tryd.ntmps7
    go_wp2_with fail
    with_reducible refine (examples_any _ HR.out).mono ?_
    rintro e w1 ⟨rfl, b1⟩
    have hb1 := hb0.trans (b1.mono hb0.size)
    have hh1 := keep hh0 b1
    go_wp2_with fail
    with_reducible refine (HG.out _).mono ?_
    rintro e w2 ⟨rfl, b2⟩
    have hb2 := hb1.trans (b2.mono hb1.size)
    have hb3 := hb2.alloc hb2.size (.cells #[.string ⟨#[]⟩, .slice none 0 0, .string ⟨#[]⟩] 24)
    have t8 := heap_alloc_new w2 (.cells #[.string ⟨#[]⟩, .slice none 0 0, .string ⟨#[]⟩] 24)
    have t5 := keep (keep hh1 b2) ((Below.refl _ _).alloc (Nat.le_refl _) (.cells #[.string ⟨#[]⟩, .slice none 0 0, .string ⟨#[]⟩] 24))
    clear hh0 hb0 b1 hb1 hh1 HR hb2 b2 HG
    go_wp2_with fail
    obtain ⟨V, hV⟩ : ∃ V, V = w2.alloc (.cells #[.string ⟨#[]⟩, .slice none 0 0, .string ⟨#[]⟩] 24) := ⟨_, rfl⟩
    rw [← hV] at hb3 t8 t5 ⊢
    clear hV
    refine Quiet.region (by kernel_rfl) (by kernel_rfl) ?_
    repeat (go_big_quiet_step (fail))
    refine wpQuiet_nil ?_
    rintro _ ⟨pq, rfl⟩
    have hq := pq.below
    generalize pq.world = wq at hq ⊢
    have hbq := hb3.trans (hq.mono hb3.size)
    obtain ⟨k0, k1, k2, _⟩ := cells3 (keep t5 hq)
    obtain ⟨m0, m1, m2, _⟩ := cells3 (keep t8 hq)
    have HVq := Lib.hid (HV.out.below hbq)
    clear t5 t8 hq hb3 HV
    go_wp2
    go_loopw [11, 12] (fun kn i wr => ∃ (k : Nat) (b : Bool), k ≤ ls.length ∧ i = .int .i64 k ∧ kn = .bool b ∧ b = known ls k ∧ wq = wr) (fun _ i _ => ls.length - (intOf i).toNat)
    case atStart => exact ⟨0, _, Nat.zero_le _, rfl, rfl, by unfold known; simp; omega, rfl⟩
    case round =>
      obtain ⟨k, b, hk, rfl, rfl, hbk, rfl⟩ := hrel
      have HB := Lib.hid hbk
      clear hbk
      by_cases hlt : k < ls.length
      · obtain ⟨g, o, rfl, hg, hcell⟩ := HVq.out.cells hlt
        obtain ⟨x, hx⟩ : ∃ x, ls[k]? = some x := ⟨_, List.getElem?_eq_getElem hlt⟩
        obtain ⟨_, hc1, _⟩ := hcell k x hx
        have HN : Hid (known ls (k + 1) = (b && plain x)) := Lib.hid (by rw [known_next hx, HB.out])
        have hltz : (k : Int) < (ls.length : Int) := by omega
        obtain ⟨x1, x2⟩ := x
        have HN : Hid (known ls (k + 1) = (b && (decide (1 ≤ x1) && decide (x1 ≤ 2)))) := HN
        clear hx hcell
        cases b with
        | false =>
          go_wp2
          go_roundw
          case rel => exact ⟨k + 1, false, by omega, by go_num, rfl, by rw [HN.out]; rfl, trivial⟩
          case measure => simp [intOf]; omega
        | true =>
          by_cases h1 : (1 : Int) ≤ x1
          · by_cases h2 : x1 ≤ (2 : Int)
            · have HN1 : Hid (known ls (k + 1) = true) := Lib.hid (by rw [HN.out]; simp [h1, h2])
              go_wp2
              go_roundw
              case rel => exact ⟨k + 1, true, by omega, by go_num, rfl, HN1.out.symm, trivial⟩
              case measure => simp [intOf]; omega
            · have HN1 : Hid (known ls (k + 1) = false) := Lib.hid (by rw [HN.out]; simp [h2])
              go_wp2
              go_roundw
              case rel => exact ⟨k + 1, false, by omega, by go_num, rfl, HN1.out.symm, trivial⟩
              case measure => simp [intOf]; omega
          · have HN1 : Hid (known ls (k + 1) = false) := Lib.hid (by rw [HN.out]; simp [h1])
            go_wp2
            go_roundw
            case rel => exact ⟨k + 1, false, by omega, by go_num, rfl, HN1.out.symm, trivial⟩
            case measure => simp [intOf]; omega
      · have hltz : ¬ (k : Int) < (ls.length : Int) := by omega
        obtain rfl : k = ls.length := by omega
        have HM : Hid (mayL ls = b) := Lib.hid (by rw [HB.out, known_end])
        by_cases hgood : b = true ∧ sig.size = 32
        · obtain ⟨rfl, h32⟩ := hgood
          have h32z : ((sig.size : Int) == 32) = true := by simp; omega
          go_wp2
          go_ret
          exact ⟨rfl, hbq⟩
        · have HP := Lib.hid (put_nothing ten _ ls sig (by rw [HM.out]; exact hgood) _ HVq.out)
          cases b with
          | false =>
            go_wp2_with fail
            with_reducible refine HP.out.mono ?_
            rintro e w9 ⟨rfl, b9⟩
            go_wp2
            go_ret
            exact ⟨rfl, hbq.trans (b9.mono hbq.size)⟩
          | true =>
            have h32z : ((sig.size : Int) == 32) = false := by simp at hgood; rw [beq_eq_false_iff_ne]; omega
            go_wp2_with fail
            with_reducible refine HP.out.mono ?_
            rintro e w9 ⟨rfl, b9⟩
            go_wp2
            go_ret
            exact ⟨rfl, hbq.trans (b9.mono hbq.size)⟩
  | some x =>
    obtain ⟨⟨xa, xb⟩, cs, q⟩ := x
    obtain ⟨hp, hpq, hqs, hform, hfair, hput⟩ := get_back hr
    rw [size_list] at hqs
    obtain ⟨p, rfl⟩ := Int.eq_ofNat_of_zero_le hp
    simp only [Int.toNat_natCast] at hpq hput
    have hqz : ¬ ((s.size : Int) < ((q + 32 : Nat) : Int)) := by omega
    have HFair := Lib.hid hfair
    have HE : Hid (str (putT (s.extract xa xb).data.toList cs (s.extract q (q + 32)).data.toList) = s.extract p (q + 32)) := Lib.hid (by
      rw [extract_list, extract_list, Nat.add_sub_cancel_left, hput]
      exact (extract_of rfl).symm)
    have hpz : (p : Int) ≤ ((q + 32 : Nat) : Int) := by omega
    have hp0 : ¬ ((p : Int) < 0) := by omega
    clear hr hp hput hform hfair
    unfold TellsT at HG
    go_enter Tryd.func7, Tryd.ntmps7
    go_wp2_with fail
    with_reducible refine (examples_any _ HR.out).mono ?_
    rintro e w1 ⟨rfl, b1⟩
    have hb1 := hb0.trans (b1.mono hb0.size)
    have hh1 := keep hh0 b1
    go_wp2_with fail
    with_reducible refine (HG.out _).mono ?_
    rintro e w2 ⟨⟨v2, rfl, hown⟩, b2⟩
    have ROW := Lib.hid (hown.row HFair.out)
    obtain ⟨a2, cap2, hv2, _⟩ := hown.slice
    obtain ⟨n2, hn2⟩ : ∃ n, cs.length = n := ⟨_, rfl⟩
    replace hv2 : v2 = .slice a2 cs.length cap2 := hv2
    rw [hn2] at hv2
    subst hv2
    clear hown hn2
    have hb2 := hb1.trans (b2.mono hb1.size)
    obtain ⟨X, hX⟩ : ∃ X, s.extract xa xb = X := ⟨_, rfl⟩
    obtain ⟨Y, hY⟩ : ∃ Y, s.extract q (q + 32) = Y := ⟨_, rfl⟩
    obtain ⟨N, hN⟩ : ∃ N, q + 32 = N := ⟨_, rfl⟩
    rw [hX, hY, hN] at HE
    rw [hN] at hqz hpz hqs
    have hNz : (N : Int) ≤ (s.size : Int) := by omega
    have hd0 : decide ((p : Int) < 0) = false := decide_eq_false (by omega)
    have hd1 : decide ((s.size : Int) < (N : Int)) = false := decide_eq_false (by omega)
    have hd2 : decide (s.size < N) = false := decide_eq_false (by omega)
    simp only [hX, hY]
    simp only [hN]
    have hb3 := hb2.alloc hb2.size (.cells #[.string X, .slice a2 n2 cap2, .string Y] 24)
    have t8 := heap_alloc_new w2 (.cells #[.string X, .slice a2 n2 cap2, .string Y] 24)
    have t5 := keep (keep hh1 b2) ((Below.refl _ _).alloc (Nat.le_refl _) (.cells #[.string X, .slice a2 n2 cap2, .string Y] 24))
    have ROW3 := Lib.hid (ROW.out.below ((Below.refl _ _).alloc (Nat.le_refl _) (.cells #[.string X, .slice a2 n2 cap2, .string Y] 24)))
    clear hh0 hb0 b1 hb1 hh1 HR hb2 b2 HG hX hY hN ROW hqs hpq
    go_wp2_with fail
    obtain ⟨V, hV⟩ : ∃ V, V = w2.alloc (.cells #[.string X, .slice a2 n2 cap2, .string Y] 24) := ⟨_, rfl⟩
    rw [← hV] at hb3 t8 t5 ROW3 ⊢
    clear hV
    have HP : Hid (∀ z : Quiet.Behind V, Calls Tryd.prog 24 #[.agg #[.string X, .slice a2 n2 cap2, .string Y]] z.world fun e w' => e = .returned (.string (s.extract p N)) ∧ Below z.world.heap.size z.world w') := Lib.hid fun z => by
      rw [← HE.out]
      exact put_any X _ cs Y z.world (ROW3.out.below z.below) ROW3.out.len
    have q0 := Quiet.cell (a := ⟨w2.heap.size, 0, none⟩) (Array.getElem?_eq_some_iff.1 t8).1 (cell_at (i := 0) t8 rfl)
    have q1 := Quiet.cell (a := ⟨w2.heap.size, 1, none⟩) (Array.getElem?_eq_some_iff.1 t8).1 (cell_at (i := 1) t8 rfl)
    have q2 := Quiet.cell (a := ⟨w2.heap.size, 2, none⟩) (Array.getElem?_eq_some_iff.1 t8).1 (cell_at (i := 2) t8 rfl)
    refine Quiet.region (by kernel_rfl) (by kernel_rfl) ?_
    repeat (go_big_quiet_step (first | (go_at_call 24; (with_reducible exact Quiet.calls (HP.out _)))))
    refine wpQuiet_nil ?_
    rintro _ ⟨pq, rfl⟩
    have hq := pq.below
    generalize pq.world = wq at hq ⊢
    have hbq := hb3.trans (hq.mono hb3.size)
    obtain ⟨k0, k1, k2, _⟩ := cells3 (keep t5 hq)
    have HVq := Lib.hid (HV.out.below hbq)
    clear t5 t8 hq hb3 HV HP ROW3 HE q0 q1 q2 hpz hp0 hqz hNz hd0 hd1 hd2
    go_wp2
    go_loopw [11, 12] (fun kn i wr => ∃ (k : Nat) (b : Bool), k ≤ ls.length ∧ i = .int .i64 k ∧ kn = .bool b ∧ b = known ls k ∧ wq = wr) (fun _ i _ => ls.length - (intOf i).toNat)
    case atStart => exact ⟨0, _, Nat.zero_le _, rfl, rfl, by unfold known; simp; omega, rfl⟩
    case round =>
      obtain ⟨k, b, hk, rfl, rfl, hbk, rfl⟩ := hrel
      have HB := Lib.hid hbk
      clear hbk
      by_cases hlt : k < ls.length
      · obtain ⟨g, o, rfl, hg, hcell⟩ := HVq.out.cells hlt
        obtain ⟨x, hx⟩ : ∃ x, ls[k]? = some x := ⟨_, List.getElem?_eq_getElem hlt⟩
        obtain ⟨_, hc1, _⟩ := hcell k x hx
        have HN : Hid (known ls (k + 1) = (b && plain x)) := Lib.hid (by rw [known_next hx, HB.out])
        have hltz : (k : Int) < (ls.length : Int) := by omega
        obtain ⟨x1, x2⟩ := x
        have HN : Hid (known ls (k + 1) = (b && (decide (1 ≤ x1) && decide (x1 ≤ 2)))) := HN
        clear hx hcell
        cases b with
        | false =>
          go_wp2
          go_roundw
          case rel => exact ⟨k + 1, false, by omega, by go_num, rfl, by rw [HN.out]; rfl, trivial⟩
          case measure => simp [intOf]; omega
        | true =>
          by_cases h1 : (1 : Int) ≤ x1
          · by_cases h2 : x1 ≤ (2 : Int)
            · have HN1 : Hid (known ls (k + 1) = true) := Lib.hid (by rw [HN.out]; simp [h1, h2])
              go_wp2
              go_roundw
              case rel => exact ⟨k + 1, true, by omega, by go_num, rfl, HN1.out.symm, trivial⟩
              case measure => simp [intOf]; omega
            · have HN1 : Hid (known ls (k + 1) = false) := Lib.hid (by rw [HN.out]; simp [h2])
              go_wp2
              go_roundw
              case rel => exact ⟨k + 1, false, by omega, by go_num, rfl, HN1.out.symm, trivial⟩
              case measure => simp [intOf]; omega
          · have HN1 : Hid (known ls (k + 1) = false) := Lib.hid (by rw [HN.out]; simp [h1])
            go_wp2
            go_roundw
            case rel => exact ⟨k + 1, false, by omega, by go_num, rfl, HN1.out.symm, trivial⟩
            case measure => simp [intOf]; omega
      · have hltz : ¬ (k : Int) < (ls.length : Int) := by omega
        obtain rfl : k = ls.length := by omega
        have HM : Hid (mayL ls = b) := Lib.hid (by rw [HB.out, known_end])
        by_cases hgood : b = true ∧ sig.size = 32
        · obtain ⟨rfl, h32⟩ := hgood
          have h32z : ((sig.size : Int) == 32) = true := by simp; omega
          go_wp2
          go_ret
          exact ⟨rfl, hbq⟩
        · have HP := Lib.hid (put_nothing ten _ ls sig (by rw [HM.out]; exact hgood) _ HVq.out)
          cases b with
          | false =>
            go_wp2_with fail
            with_reducible refine HP.out.mono ?_
            rintro e w9 ⟨rfl, b9⟩
            go_wp2
            go_ret
            exact ⟨rfl, hbq.trans (b9.mono hbq.size)⟩
          | true =>
            have h32z : ((sig.size : Int) == 32) = false := by simp at hgood; rw [beq_eq_false_iff_ne]; omega
            go_wp2_with fail
            with_reducible refine HP.out.mono ?_
            rintro e w9 ⟨rfl, b9⟩
            go_wp2
            go_ret
            exact ⟨rfl, hbq.trans (b9.mono hbq.size)⟩
open Go.ChangeShapes Go.WideShapes Go.ChangeAt
set_option maxRecDepth 100000 in
theorem lifted (os : Os) (started : os.Started) (H : Type) (enc : TypeId × Value → H) :
    ReturnsInHanded {} Tryd.checked os 7 .any (fun w args => (Rows.macOnceSpec.pre enc Tryd.prog Tryd.f7 Rows.macOnceRow.domain false w args ∧ laidMetH Tryd.prog Rows.macOnceRow.laid w) ∧ sizedMet enc Tryd.prog Tryd.f7 (OpenSpec.ofChange Rows.macOnceSpec) false w args)
      (Rows.macOnceSpec.post enc Tryd.prog Tryd.f7 false true false false) := by
  refine returnsInHanded_of_change_and (C := Tryd.checked) (X := fun w _ => laidMetH Tryd.prog Rows.macOnceRow.laid w) (fun _ _ _ hh h => h.of_heap hh) Ends.own started (by kernel_rfl) Tryd.func7
    (ChangeSpec.witness_shaped (enc := enc) (C := Tryd.checked) (os := os) (X := fun w _ => laidMetH Tryd.prog Rows.macOnceRow.laid w) false (World.laidAll Tryd.prog os Rows.macOnceRow.laid) #[.string ⟨#[]⟩, .int .i64 0, .agg #[.string ⟨#[]⟩, .slice none 0 0, .string ⟨#[]⟩]] 8 (World.laidAll_os _ _ _)
      (World.shaped_of_ZipB (by kernel_rfl) (by kernel_rfl)) (by kernel_rfl) (by kernel_rfl) (by kernel_rfl)
      (by rw [MakeChecks.laidMetH_plain _ _ _ (by kernel_rfl)]; exact laidMet_laidAll _ (by kernel_rfl) (by kernel_rfl))) ?_
  intro W base args ds gs before hval0 hW _ hsz0 hL _
  have hval : ∀ (j : Nat) t v, Tryd.f7.params[j]? = some t → args[j]? = some v → Value.okWide Tryd.prog W .any base t v := hval0
  have hsz : (DataW.weightsEach Tryd.prog (Tryd.f7.params.toList ++ Rows.macOnceSpec.plain.varTypes Tryd.prog) (ds ++ gs)).all (· ≤ reachBytes) = true := hsz0
  have hW' := hW
  obtain ⟨p, q, hA0, hV, rfl, hfz, hnd⟩ := hW
  have hA : DataW.TrodAll enc Tryd.prog W 0 (fun _ => true) true Tryd.f7.params.toList args.toList ds p := hA0
  rw [Tryd.params7] at hA hval hsz
  obtain ⟨v0, vs0, d0, ds0, p0, q0, hargs, rfl, rfl, h0, r0⟩ := trodAll_cons hA
  obtain ⟨v1, vs1, d1, ds1, p1, q1, rfl, rfl, rfl, h1, r1⟩ := trodAll_cons r0
  obtain ⟨v2, vs2, d2, ds2, p2, q2, rfl, rfl, rfl, h2, r2⟩ := trodAll_cons r1
  obtain ⟨rfl, rfl, rfl⟩ := trodAll_nil r2
  obtain rfl : args = #[v0, v1, v2] := by cases args; simp_all
  obtain ⟨rfl, rfl⟩ := trodVars_none hV
  obtain ⟨a0, rfl, rfl, rfl, w0⟩ := Go.ChangeMaps.open_string Tryd.underlying9 (hval 0 9 v0 rfl rfl) h0
  obtain ⟨a1, rfl, rfl, rfl, w1⟩ := open_int Tryd.underlying3 (hval 1 3 v1 rfl rfl) h1
  obtain ⟨a2, u2, l2, s2, rfl, w2, b2, c2⟩ := Mac.open_token hsz (j := 2) rfl rfl (hval 2 24 v2 rfl rfl) h2
  have b0 : a0.size ≤ 140737488351232 := by have := sized_string hsz (j := 0) rfl rfl; rw [Array.length_toList] at this; exact this
  have b1 := bounds_i64 w1
  refine (walk a0 b0 a1 b1.1 b1.2 a2 u2 l2 s2 b2 c2 W (Sha.roots_met (by kernel_rfl) hL) w2).mono fun e W' ⟨he, hb⟩ => ?_
  subst he
  exact ⟨_, rfl, Ends.law_end Ends.laidOut (by rw [Tryd.params7]; decide +kernel) rfl (by kernel_rfl) Tryd.underlying4 hW' rfl hb⟩

theorem row : Rows.MacOnceSaid :=
  OpenClaim.holds_of_wide 7 Tryd.f7 rfl rfl rfl rfl rfl rfl rfl ⟨rfl, rfl, rfl, rfl, rfl⟩ rfl rfl rfl rfl rfl (by kernel_rfl) Tryd.func7 (by kernel_rfl)
    (of_decide_eq_true (by kernel_rfl)) (by unfold Func.isWrapper; first | (rw [if_pos (by decide +kernel)]; kernel_rfl) | (rw [if_neg (by decide +kernel)]; exact ⟨rfl, rfl⟩))
    (fun os started H enc _ => lifted os started H enc)

/-- The statement: the tied card. -/
theorem proved : Rows.MacOnceCardSaid :=
  Claim7.holds_tied_plain_at .later [] [.data, .data] true Rows.macOnceCard.stood.harness false row (fun _ h => by cases h) (by kernel_rfl) (fun _ h => by cases h) macOnce_row_tie rfl ⟨rfl, rfl⟩ (by kernel_rfl) rfl
    (fun f fn hf hfn => by
      obtain rfl : f = 7 := Option.some.inj ((show Tryd.prog.funcNamed "demesne/demesnelaw07.MacOnce" = some 7 by kernel_rfl).symm.trans hf) |>.symm
      obtain rfl : fn = Tryd.f7 := (Option.some.inj (Tryd.func7.symm.trans hfn)).symm
      exact ⟨by kernel_rfl, fun j t ht => by
        rw [Tryd.params7] at ht
        have hm : t ∈ [9, 3, 24] := by simpa using Array.mem_of_getElem? ht
        have hall : ([9, 3, 24].all fun u => !Tryd.prog.wantsStandIn u) = true := by kernel_rfl
        exact (show Tryd.prog.wantsStandIn t = false by simpa using List.all_eq_true.1 hall t hm)⟩)
    (by kernel_rfl)
end Go.Proofs.YthopegokjbibmaaDoor.macOnce
