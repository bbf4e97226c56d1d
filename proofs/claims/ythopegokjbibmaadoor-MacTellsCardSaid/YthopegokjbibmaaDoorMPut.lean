/- What mac.hasForm and mac.Put answer of any token; of memory that was there nothing turns. -/
import Derived.Test.YthopegokjbibmaaDoorMRow
import Derived.Test.YthopegokjbibmaaDoorWRight
namespace Go.Proofs.YthopegokjbibmaaDoor.Mac
open Go.RowKit Go.Proofs.YthopegokjbibmaaDoor.Sha
open Go.Proofs.YthopegokjbibmaaDoor.Boxes (set3 set3_box set3_below cells3 keep)

set_option maxHeartbeats 1000000 in
set_option maxRecDepth 100000 in
theorem hasForm_any (ten : ByteArray) (v : Value) (ls : List Cav) (sig : ByteArray) (w : World) (hv : Row w v ls) (hl : ls.length ≤ 9223372036854775807) :
    Calls Tryd.prog 31 #[.agg #[.string ten, v, .string sig]] w fun e w' => e = .returned (.bool (formL ten.data.toList ls sig.data.toList)) ∧ Below w.heap.size w w' := by
  obtain ⟨a, cap, rfl, hcap, hm⟩ := hv.slice
  have hb0 : Below w.heap.size w (w.alloc (.cells #[.string ten, .slice a ls.length cap, .string sig] 24)) := (Below.refl _ _).alloc (Nat.le_refl _) _
  obtain ⟨c0, c1, c2, _⟩ := cells3 (heap_alloc_new w (.cells #[.string ten, .slice a ls.length cap, .string sig] 24))
  obtain ⟨q, hq⟩ : ∃ q, Word.right ten.data.toList = q := ⟨_, rfl⟩
  obtain ⟨m, hmm⟩ : ∃ m, mayL ls = m := ⟨_, rfl⟩
  have HW : Hid (∀ w, Calls Tryd.prog 51 #[.string ten] w fun e w' => e = .returned (.bool q) ∧ Below w.heap.size w w') := Lib.hid (by rw [← hq]; exact Word.right_any ten)
  have HM : Hid (∀ w', Below w.heap.size w w' → Calls Tryd.prog 39 #[.slice a ls.length cap] w' fun e w'' => e = .returned (.bool m) ∧ Below w'.heap.size w' w'') := Lib.hid (fun w' h => by rw [← hmm]; exact may_any _ ls w' (hv.below h) hl)
  have HE : Hid (formL ten.data.toList ls sig.data.toList = (q && (m && decide (sig.size = 32)))) := Lib.hid (by unfold formL; rw [hq, hmm, size_list])
  have hlt : w.heap.size < (w.alloc (.cells #[.string ten, .slice a ls.length cap, .string sig] 24)).heap.size := by simp
  clear hv hq hmm
  cases q with
  | false =>
    go_enter Tryd.func31, Tryd.ntmps31
    go_wp2_with fail
    with_reducible refine (HW.out _).mono ?_
    rintro e w1 ⟨rfl, b1⟩
    go_wp2
    go_ret
    exact ⟨by rw [HE.out]; rfl, hb0.trans (b1.mono hb0.size)⟩
  | true =>
    cases m with
    | false =>
      go_enter Tryd.func31, Tryd.ntmps31
      go_wp2_with fail
      with_reducible refine (HW.out _).mono ?_
      rintro e w1 ⟨rfl, b1⟩
      have k1 := (b1.cell (p := ⟨w.heap.size, 1, none⟩) hlt).trans c1
      have b1' := hb0.trans (b1.mono hb0.size)
      go_wp2_with fail
      with_reducible refine (HM.out _ b1').mono ?_
      rintro e w2 ⟨rfl, b2⟩
      go_wp2
      go_ret
      exact ⟨by rw [HE.out]; rfl, b1'.trans (b2.mono b1'.size)⟩
    | true =>
      go_enter Tryd.func31, Tryd.ntmps31
      go_wp2_with fail
      with_reducible refine (HW.out _).mono ?_
      rintro e w1 ⟨rfl, b1⟩
      have k1 := (b1.cell (p := ⟨w.heap.size, 1, none⟩) hlt).trans c1
      have k2 := (b1.cell (p := ⟨w.heap.size, 2, none⟩) hlt).trans c2
      have b1' := hb0.trans (b1.mono hb0.size)
      go_wp2_with fail
      with_reducible refine (HM.out _ b1').mono ?_
      rintro e w2 ⟨rfl, b2⟩
      have k2' := (b2.cell (p := ⟨w.heap.size, 2, none⟩) (by have := b1.size; show w.heap.size < _; omega)).trans k2
      go_wp2
      go_ret
      exact ⟨by rw [HE.out]; by_cases h : sig.size = 32 <;> simp [h]; omega, b1'.trans (b2.mono b1'.size)⟩

set_option maxHeartbeats 2000000 in
set_option maxRecDepth 100000 in
theorem put_any (ten : ByteArray) (v : Value) (ls : List Cav) (sig : ByteArray) (w : World) (hv : Row w v ls) (hl : ls.length ≤ 9223372036854775807) :
    Calls Tryd.prog 24 #[.agg #[.string ten, v, .string sig]] w fun e w' => e = .returned (.string (str (putT ten.data.toList ls sig.data.toList))) ∧ Below w.heap.size w w' := by
  obtain ⟨a, cap, rfl, hcap, hm⟩ := hv.slice
  have hb0 : Below w.heap.size w (w.alloc (.cells #[.string ten, .slice a ls.length cap, .string sig] 24)) := (Below.refl _ _).alloc (Nat.le_refl _) _
  have hh0 := heap_alloc_new w (.cells #[.string ten, .slice a ls.length cap, .string sig] 24)
  obtain ⟨q, hq⟩ : ∃ q, formL ten.data.toList ls sig.data.toList = q := ⟨_, rfl⟩
  have HF : Hid (∀ w', Below w.heap.size w w' → Calls Tryd.prog 31 #[.agg #[.string ten, .slice a ls.length cap, .string sig]] w' fun e w'' => e = .returned (.bool q) ∧ Below w'.heap.size w' w'') := Lib.hid (fun w' h => by rw [← hq]; exact hasForm_any ten _ ls sig w' (hv.below h) hl)
  obtain ⟨c0, c1, c2, _⟩ := cells3 hh0
  cases q with
  | false =>
    have HE : Hid (putT ten.data.toList ls sig.data.toList = []) := Lib.hid (by unfold putT; rw [hq]; rfl)
    clear hq hv
    go_enter Tryd.func24, Tryd.ntmps24
    go_wp2_with fail
    with_reducible refine (HF.out _ hb0).mono ?_
    rintro e w1 ⟨rfl, b1⟩
    go_wp2
    go_ret
    exact ⟨by rw [HE.out]; rfl, hb0.trans (b1.mono hb0.size)⟩
  | true =>
    have hparts := hq
    unfold formL mayL at hparts
    simp only [Bool.and_eq_true, decide_eq_true_eq] at hparts
    have h8 : ls.length ≤ 8 := hparts.2.1.1
    have ht : ten.size ≤ 32 := by rw [← size_list]; exact (Word.right_free hparts.1).2
    have hs32 : sig.size = 32 := by rw [← size_list]; exact hparts.2.2
    have HE : Hid (putT ten.data.toList ls sig.data.toList = (Wire.putL ten.data.toList.length ++ ten.data.toList) ++ Wire.putL ls.length ++ bodyL ls ++ sig.data.toList) := Lib.hid (by unfold putT; rw [if_pos hq])
    have hfair := hv.fair
    have HFair := Lib.hid hfair
    have HV := Lib.hid hv
    clear hq hparts hv
    have P1 : ∀ w, Calls Tryd.prog 42 #[.string ten] w fun e w' => e = .returned (.string (Wire.str (Wire.putL ten.size) ++ ten)) ∧ Below w.heap.size w w' := Wire.putText_any ten (by omega)
    have P2 : ∀ w, Calls Tryd.prog 43 #[.int .u64 (ls.length : Int)] w fun e w' => e = .returned (.string (Wire.str (Wire.putL ls.length))) ∧ Below w.heap.size w w' := Wire.put_any ls.length (by omega)
    have z1 : (Wire.str (Wire.putL ten.size) ++ ten).size ≤ 1125899906842634 := by rw [ByteArray.size_append, Wire.str_size]; have := Wire.putL_ten (u := ten.size) (by omega); omega
    have z2 : (Wire.str (Wire.putL ls.length)).size ≤ 10 := by rw [Wire.str_size]; exact Wire.putL_ten (by omega)
    have HG : Hid (Wire.str (Wire.putL ten.size) ++ ten ++ Wire.str (Wire.putL ls.length) = str ((Wire.putL ten.data.toList.length ++ ten.data.toList) ++ Wire.putL ls.length)) := Lib.hid (by
      show (str _ ++ ten ++ str _ : ByteArray) = _
      rw [glue_of, glue, size_list])
    generalize Wire.str (Wire.putL ten.size) ++ ten = A at P1 z1 HG
    generalize Wire.str (Wire.putL ls.length) = B at P2 z2 HG
    have HP1 := Lib.hid P1
    have HP2 := Lib.hid P2
    clear P1 P2 hfair
    go_enter Tryd.func24, Tryd.ntmps24
    go_wp2_with fail
    with_reducible refine (HF.out _ hb0).mono ?_
    rintro e w1 ⟨rfl, b1⟩
    have hh1 := keep hh0 b1
    obtain ⟨d0, d1, d2, _⟩ := cells3 hh1
    have hlt := (Array.getElem?_eq_some_iff.1 hh1).1
    have b1' := hb0.trans (b1.mono hb0.size)
    clear HF hb0 hh0 c0 c1 c2 b1
    go_wp2
    have k0 := Quiet.cell (a := ⟨w.heap.size, 0, none⟩) hlt d0
    have k1 := Quiet.cell (a := ⟨w.heap.size, 1, none⟩) hlt d1
    clear d0 d1 d2
    refine Quiet.region (by kernel_rfl) (by kernel_rfl) ?_
    repeat (go_big_quiet_step (first | (go_at_call 42; (with_reducible exact Quiet.calls (HP1.out _))) | (go_at_call 43; (with_reducible exact Quiet.calls (HP2.out _)))))
    refine wpQuiet_nil ?_
    rintro _ ⟨pq, rfl⟩
    have hq := pq.below
    generalize pq.world = wq at hq ⊢
    have hh2 := keep hh1 hq
    have b2 := b1'.trans (hq.mono b1'.size)
    obtain ⟨d0, d1, d2, _⟩ := cells3 hh2
    have HV2 := Lib.hid (HV.out.below b2)
    have zAB : (A ++ B).size ≤ 1125899906842644 := by rw [ByteArray.size_append]; omega
    clear k0 k1 hq b1' hh1 hlt HP1 HP2 z1 z2
    generalize A ++ B = C at HG zAB
    go_wp2
    go_loopw [2, 20] (fun t i wr => ∃ (k : Nat) (T : ByteArray), k ≤ ls.length ∧ i = .int .i64 k ∧ t = .string T ∧ T = C ++ str (bodyL (ls.take k)) ∧ Below wq.heap.size wq wr) (fun _ i _ => ls.length - (intOf i).toNat)
    case atStart => exact ⟨0, C, Nat.zero_le _, rfl, rfl, by rw [show str (bodyL (ls.take 0)) = ByteArray.empty from rfl, ByteArray.append_empty], Below.refl _ _⟩
    case round =>
      obtain ⟨k, T, hk, rfl, rfl, hT, hb⟩ := hrel
      have HT := Lib.hid hT
      have zT : T.size ≤ 1125899906843000 := by
        rw [hT, ByteArray.size_append, str_size]
        have := bodyL_len (cs := ls.take k) (fun c hc => HFair.out c (List.mem_of_mem_take hc))
        rw [List.length_take] at this
        omega
      clear hT
      by_cases hlt : k < ls.length
      · obtain ⟨g, o, rfl, hg, hcell⟩ := HV2.out.cells hlt
        obtain ⟨x, hx⟩ : ∃ x, ls[k]? = some x := ⟨_, List.getElem?_eq_getElem hlt⟩
        obtain ⟨hfx, hc1, hc2⟩ := hcell.below hg hb k x hx
        have hst := Lib.hid (putCaveat_any x hfx.2.2)
        have HN : Hid (ls.take (k + 1) = ls.take k ++ [x]) := Lib.hid (by rw [List.take_add_one, hx]; rfl)
        have zx : (str (putC x)).size ≤ 20 := by rw [str_size]; exact putC_len hfx.2.2
        clear hx hcell hfx
        have hltz : (k : Int) < (ls.length : Int) := by omega
        obtain ⟨x1, x2⟩ := x
        unfold val at hst
        have hb1 : Below wq.heap.size wq (wr.alloc (.cells #[.int .i64 x1, .int .u64 (x2 : Int)] 27)) := hb.alloc hb.size _
        obtain ⟨X, hX⟩ : ∃ X, str (putC (x1, x2)) = X := ⟨_, rfl⟩
        have HX := Lib.hid hX
        rw [hX] at hst zx
        clear hX
        go_wp2_with fail
        with_reducible refine (hst.out _).mono ?_
        rintro e w1 ⟨rfl, b1⟩
        go_wp2
        go_roundw
        case rel => exact ⟨k + 1, _, by omega, by go_num, rfl, by rw [HN.out, bodyL_snoc, HT.out, ← HX.out, ← glue, ByteArray.append_assoc], hb1.trans (b1.mono hb1.size)⟩
        case measure => simp [intOf]; omega
      · have hltz : ¬ (k : Int) < (ls.length : Int) := by omega
        have d2' := (hb.cell (p := ⟨w.heap.size, 2, none⟩) (Array.getElem?_eq_some_iff.1 hh2).1).trans d2
        go_wp2
        go_ret
        refine ⟨?_, b2.trans (hb.mono b2.size)⟩
        rw [HE.out, HT.out, HG.out, List.take_of_length_le (by omega)]
        have : str (bodyL ls) ++ sig = str (bodyL ls ++ sig.data.toList) := glue_of _ _
        rw [ByteArray.append_assoc, this, glue]
        simp
end Go.Proofs.YthopegokjbibmaaDoor.Mac
