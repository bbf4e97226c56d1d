/- Proved: demesnelaw04.LabelRight answers true for every slice of labels, and leaves it as it was. No condition. -/
import Derived.Test.YtpkaejacnblplaaEnd
import Derived.Test.YtpkaejacnblplaaLArgs
import Derived.Test.YtpkaejacnblplaaLSame
namespace Go.Proofs.Ytpkaejacnblplaa.labelRight
open Go.RowKit Go.Proofs.Ytpkaejacnblplaa.Label Go.Proofs.Ytpkaejacnblplaa.Word

def none2 : Pr := (⟨#[]⟩, ⟨#[]⟩)
/-- What one more pair asks. -/
def oneFits (ls : List Pr) (k : Nat) : Bool := right (ls.getD k none2).1.data.toList && (right (ls.getD k none2).2.data.toList && (decide (k = 0) || less (ls.getD (k - 1) none2).1 (ls.getD k none2).1))
/-- Do the first so many fit? -/
def fitsB (ls : List Pr) : Nat → Bool
  | 0 => true
  | k + 1 => fitsB ls k && oneFits ls k

theorem fitsB_iff (ls : List Pr) : ∀ k, k ≤ ls.length → (fitsB ls k = true ↔ (∀ x ∈ ls.take k, lacks x = false) ∧ Rises (ls.take k))
  | 0, _ => by simp [fitsB, Rises]
  | k + 1, hk => by
    obtain ⟨x, hx⟩ : ∃ x, ls[k]? = some x := ⟨_, List.getElem?_eq_getElem (by omega)⟩
    have ht : ls.take (k + 1) = ls.take k ++ [x] := by rw [List.take_add_one, hx]; rfl
    have hd : ls.getD k none2 = x := by rw [List.getD_eq_getElem?_getD, hx]; rfl
    have hlk : (ls.take k).length = k := by rw [List.length_take]; omega
    rw [fitsB, Bool.and_eq_true, fitsB_iff ls k (by omega), ht, oneFits, hd]
    have hlx : lacks x = false ↔ right x.1.data.toList = true ∧ right x.2.data.toList = true := by
      unfold lacks
      rw [Bool.or_eq_false_iff, Bool.not_eq_false', Bool.not_eq_false']
    have hrise : Rises (ls.take k ++ [x]) ↔ Rises (ls.take k) ∧ (k = 0 ∨ less (ls.getD (k - 1) none2).1 x.1 = true) := by
      constructor
      · intro h
        refine ⟨fun j a b ha hb => ?_, ?_⟩
        · have h1 := (List.getElem?_eq_some_iff.1 ha).1
          have h2 := (List.getElem?_eq_some_iff.1 hb).1
          exact h j a b (by rw [List.getElem?_append_left h1]; exact ha) (by rw [List.getElem?_append_left h2]; exact hb)
        · cases k with
          | zero => exact .inl rfl
          | succ k =>
            right
            obtain ⟨y, hy⟩ : ∃ y, ls[k]? = some y := ⟨_, List.getElem?_eq_getElem (by omega)⟩
            have hdy : ls.getD (k + 1 - 1) none2 = y := by rw [Nat.add_sub_cancel, List.getD_eq_getElem?_getD, hy]; rfl
            rw [hdy]
            refine h k y x ?_ ?_
            · rw [List.getElem?_append_left (by omega), List.getElem?_take, if_pos (by omega)]; exact hy
            · rw [List.getElem?_append_right (by omega), hlk]; simp
      · rintro ⟨h, hk0⟩ j a b ha hb
        have hj := (List.getElem?_eq_some_iff.1 hb).1
        rw [List.length_append, hlk] at hj
        simp at hj
        by_cases hjk : j + 1 < k
        · rw [List.getElem?_append_left (by omega)] at ha hb
          exact h j a b ha hb
        · have hjk' : j + 1 = k := by omega
          subst hjk'
          rw [List.getElem?_append_left (by omega), List.getElem?_take, if_pos (by omega)] at ha
          rw [List.getElem?_append_right (by omega), hlk] at hb
          simp at hb
          subst hb
          rcases hk0 with hk0 | hk0
          · omega
          · rw [Nat.add_sub_cancel, List.getD_eq_getElem?_getD, ha] at hk0
            exact hk0
    rw [hrise, Bool.and_eq_true, Bool.and_eq_true, Bool.or_eq_true, decide_eq_true_eq]
    constructor
    · rintro ⟨⟨h1, h2⟩, h3, h4, h5⟩
      refine ⟨fun y hy => ?_, h2, h5⟩
      rcases List.mem_append.1 hy with hy | hy
      · exact h1 y hy
      · rw [List.mem_singleton] at hy; subst hy; exact hlx.2 ⟨h3, h4⟩
    · rintro ⟨h1, h2, h5⟩
      have := hlx.1 (h1 x (by simp))
      exact ⟨⟨fun y hy => h1 y (List.mem_append_left _ hy), h2⟩, this.1, this.2, h5⟩
theorem fits_is (ls : List Pr) : (decide (ls.length ≤ 8) && fitsB ls ls.length) = rightL ls := by
  rw [Bool.eq_iff_iff, Bool.and_eq_true, fitsB_iff ls ls.length (Nat.le_refl _), List.take_length]
  unfold rightL
  rw [Bool.and_eq_true, Bool.and_eq_true, Bool.not_eq_true', risesB_iff, List.any_eq_false]
  simp
theorem right_first {ls : List Pr} {k : Nat} {x : Pr} (hx : ls[k]? = some x) (h : right x.1.data.toList = false) : oneFits ls k = false := by
  unfold oneFits
  rw [List.getD_eq_getElem?_getD, hx]
  simp only [Option.getD_some]
  rw [h]; rfl
theorem right_second {ls : List Pr} {k : Nat} {x : Pr} (hx : ls[k]? = some x) (h : right x.1.data.toList = true) (h2 : right x.2.data.toList = false) : oneFits ls k = false := by
  unfold oneFits
  rw [List.getD_eq_getElem?_getD, hx]
  simp only [Option.getD_some]
  rw [h, h2]; rfl
theorem right_zero {ls : List Pr} {x : Pr} (hx : ls[0]? = some x) (h : right x.1.data.toList = true) (h2 : right x.2.data.toList = true) : oneFits ls 0 = true := by
  unfold oneFits
  rw [List.getD_eq_getElem?_getD, hx]
  simp only [Option.getD_some]
  rw [h, h2]; rfl
theorem right_more {ls : List Pr} {k : Nat} {x y : Pr} (hx : ls[k + 1]? = some x) (hy : ls[k]? = some y) (h : right x.1.data.toList = true) (h2 : right x.2.data.toList = true) : oneFits ls (k + 1) = less y.1 x.1 := by
  unfold oneFits
  rw [List.getD_eq_getElem?_getD, hx, Nat.add_sub_cancel, List.getD_eq_getElem?_getD, hy]
  simp only [Option.getD_some]
  rw [h, h2]; simp

set_option maxRecDepth 100000 in
set_option maxHeartbeats 4000000 in
theorem walk (v : Value) (ls : List Pr) (hl : ls.length ≤ 4398046511104) (w : World) (hv : Row w v ls) :
    Calls Try.prog 7 #[v] w fun e w' => e = .returned (.bool true) ∧ Below w.heap.size w w' := by
  obtain ⟨ad, cap, rfl⟩ := hv.slice
  have HV := Lib.hid hv
  have HRi : Hid (∀ (s : ByteArray) (b : Bool), right s.data.toList = b → ∀ w, Calls Try.prog 26 #[.string s] w fun e w' => e = .returned (.bool b) ∧ Below w.heap.size w w') := Lib.hid fun s b h w => by rw [← h]; exact right_any s w
  obtain ⟨d8, hd8⟩ : ∃ d, decide (ls.length ≤ 8) = d := ⟨_, rfl⟩
  have hd8z : decide ((ls.length : Int) ≤ 8) = d8 := by rw [← hd8]; exact decide_eq_decide.2 (by omega)
  have HFi : Hid ((d8 && fitsB ls ls.length) = rightL ls) := Lib.hid (by rw [← hd8]; exact fits_is ls)
  clear hv hd8
  go_enter Try.func7, Try.ntmps7
  go_wp2_with fail
  refine (examples_any _).mono ?_
  rintro e w1 ⟨rfl, hw1⟩
  have HV1 := Lib.hid (HV.out.below hw1)
  go_wp2_with fail
  go_loopw [4, 5] (fun m i wr => ∃ k : Nat, k ≤ ls.length ∧ i = .int .i64 k ∧ m = .bool (d8 && fitsB ls k) ∧ Below w1.heap.size w1 wr) (fun _ i _ => ls.length - (intOf i).toNat)
  case atStart => exact ⟨0, Nat.zero_le _, rfl, by simp [fitsB], Below.refl _ _⟩
  case round =>
    obtain ⟨k, hk, rfl, rfl, hb⟩ := hrel
    by_cases hlt : k < ls.length
    · have hltz : (k : Int) < (ls.length : Int) := by omega
      have hk0 : (0 : Int) ≤ (k : Int) := by omega
      obtain ⟨g, o, rfl, hg, hc⟩ := HV1.out.cells hlt
      obtain ⟨x, hx⟩ : ∃ x, ls[k]? = some x := ⟨_, List.getElem?_eq_getElem hlt⟩
      have hgr : g < wr.heap.size := Nat.lt_of_lt_of_le hg hb.size
      have c1 : ∀ p : Quiet.Behind wr, p.world.cell? ⟨g, o + k * 2, none⟩ = some (.string x.1) := fun p => Quiet.cell (a := ⟨g, o + k * 2, none⟩) hgr (hc.below hg hb k x hx).1 p
      have c2 : ∀ p : Quiet.Behind wr, p.world.cell? ⟨g, o + k * 2 + 1, none⟩ = some (.string x.2) := fun p => Quiet.cell (a := ⟨g, o + k * 2 + 1, none⟩) hgr (hc.below hg hb k x hx).2 p
      have HX := Lib.hid hx
      have HC := Lib.hid hc
      have HS : Hid (fitsB ls (k + 1) = (fitsB ls k && oneFits ls k)) := Lib.hid rfl
      clear hx hc
      obtain ⟨x1, x2⟩ := x
      obtain ⟨q, hq⟩ : ∃ q, (d8 && fitsB ls k) = q := ⟨_, rfl⟩
      obtain ⟨r1, hr1⟩ : ∃ q, right x1.data.toList = q := ⟨_, rfl⟩
      obtain ⟨r2, hr2⟩ : ∃ q, right x2.data.toList = q := ⟨_, rfl⟩
      have HQ := Lib.hid hq
      have HR1 := Lib.hid hr1
      have HR2 := Lib.hid hr2
      rw [hq]
      clear hq hr1 hr2
      cases q with
      | false =>
        have HN : Hid ((d8 && fitsB ls (k + 1)) = false) := Lib.hid (by rw [HS.out, ← Bool.and_assoc, HQ.out]; rfl)
        go_wp2_with fail
        refine Quiet.region (by kernel_rfl) (by kernel_rfl) ?_
        repeat (go_big_quiet_step (fail))
        refine wpQuiet_nil ?_
        rintro _ ⟨pq, rfl⟩
        have hq := grows hb pq.below
        generalize pq.world = wq at hq ⊢
        go_wp2
        go_roundw
        case rel => exact ⟨k + 1, by omega, by go_num, by rw [HN.out], hq⟩
        case measure => simp [intOf]; omega
      | true =>
        cases r1 with
        | false =>
          have HN : Hid ((d8 && fitsB ls (k + 1)) = false) := Lib.hid (by rw [HS.out, ← Bool.and_assoc, HQ.out, right_first HX.out HR1.out]; rfl)
          go_wp2_with fail
          refine Quiet.region (by kernel_rfl) (by kernel_rfl) ?_
          repeat (go_big_quiet_step (first | (go_at_call 26; (with_reducible exact Quiet.calls (HRi.out _ _ HR1.out _)))))
          refine wpQuiet_nil ?_
          rintro _ ⟨pq, rfl⟩
          have hq := grows hb pq.below
          generalize pq.world = wq at hq ⊢
          go_wp2
          go_roundw
          case rel => exact ⟨k + 1, by omega, by go_num, by rw [HN.out], hq⟩
          case measure => simp [intOf]; omega
        | true =>
          cases r2 with
          | false =>
            have HN : Hid ((d8 && fitsB ls (k + 1)) = false) := Lib.hid (by rw [HS.out, ← Bool.and_assoc, HQ.out, right_second HX.out HR1.out HR2.out]; rfl)
            go_wp2_with fail
            refine Quiet.region (by kernel_rfl) (by kernel_rfl) ?_
            repeat (go_big_quiet_step (first | (go_at_call 26; (with_reducible exact Quiet.calls (HRi.out _ _ HR1.out _))) | (go_at_call 26; (with_reducible exact Quiet.calls (HRi.out _ _ HR2.out _)))))
            refine wpQuiet_nil ?_
            rintro _ ⟨pq, rfl⟩
            have hq := grows hb pq.below
            generalize pq.world = wq at hq ⊢
            go_wp2
            go_roundw
            case rel => exact ⟨k + 1, by omega, by go_num, by rw [HN.out], hq⟩
            case measure => simp [intOf]; omega
          | true =>
            by_cases hkz : k = 0
            · have HKZ := Lib.hid hkz
              have HN : Hid ((d8 && fitsB ls (k + 1)) = true) := Lib.hid (by rw [HS.out, ← Bool.and_assoc, HQ.out]; subst hkz; rw [right_zero HX.out HR1.out HR2.out]; rfl)
              have hz0 : ((k : Int) == 0) = true := by rw [beq_iff_eq]; omega
              clear hkz
              go_wp2_with fail
              refine Quiet.region (by kernel_rfl) (by kernel_rfl) ?_
              repeat (go_big_quiet_step (first | (go_at_call 26; (with_reducible exact Quiet.calls (HRi.out _ _ HR1.out _))) | (go_at_call 26; (with_reducible exact Quiet.calls (HRi.out _ _ HR2.out _)))))
              refine wpQuiet_nil ?_
              rintro _ ⟨pq, rfl⟩
              have hq := grows hb pq.below
              generalize pq.world = wq at hq ⊢
              go_wp2
              go_roundw
              case rel => exact ⟨k + 1, by omega, by go_num, by rw [HN.out], hq⟩
              case measure => simp [intOf]; omega
            · obtain ⟨j, rfl⟩ : ∃ j, k = j + 1 := ⟨k - 1, by omega⟩
              obtain ⟨y, hy⟩ : ∃ y, ls[j]? = some y := ⟨_, List.getElem?_eq_getElem (by omega)⟩
              have e1 : ∀ p : Quiet.Behind wr, p.world.cell? ⟨g, o + j * 2, none⟩ = some (.string y.1) := fun p => Quiet.cell (a := ⟨g, o + j * 2, none⟩) hgr (HC.out.below hg hb j y hy).1 p
              obtain ⟨y1, y2⟩ := y
              obtain ⟨b, hbl⟩ : ∃ b, Op.bytesLess y1.toList x1.toList = b := ⟨_, rfl⟩
              have HN : Hid ((d8 && fitsB ls (j + 1 + 1)) = b) := Lib.hid (by rw [HS.out, ← Bool.and_assoc, HQ.out, right_more HX.out hy HR1.out HR2.out, ← hbl]; rfl)
              have hwr1 : IntKind.i64.wrap (j : Int) = (j : Int) := by rw [IntKind.wrap_i64]; omega
              have hwr2 : IntKind.i64.wrap ((j : Int) + 1 - 1) = (j : Int) := by rw [Int.add_sub_cancel]; exact hwr1
              have hz1 : ((j : Int) + 1 == 0) = false := by rw [beq_eq_false_iff_ne]; omega
              have hj0 : (0 : Int) ≤ (j : Int) := by omega
              have hjl : (j : Int) < (ls.length : Int) := by omega
              have hjk : (j : Int) + 1 < (ls.length : Int) := by omega
              clear hy
              cases b with
              | true =>
                go_wp2_with fail
                refine Quiet.region (by kernel_rfl) (by kernel_rfl) ?_
                repeat (go_big_quiet_step (first | (go_at_call 26; (with_reducible exact Quiet.calls (HRi.out _ _ HR1.out _))) | (go_at_call 26; (with_reducible exact Quiet.calls (HRi.out _ _ HR2.out _)))))
                refine wpQuiet_nil ?_
                rintro _ ⟨pq, rfl⟩
                have hq := grows hb pq.below
                generalize pq.world = wq at hq ⊢
                go_wp2
                go_roundw
                case rel => exact ⟨j + 1 + 1, by omega, by go_num, by rw [HN.out], hq⟩
                case measure => simp [intOf]; omega
              | false =>
                go_wp2_with fail
                refine Quiet.region (by kernel_rfl) (by kernel_rfl) ?_
                repeat (go_big_quiet_step (first | (go_at_call 26; (with_reducible exact Quiet.calls (HRi.out _ _ HR1.out _))) | (go_at_call 26; (with_reducible exact Quiet.calls (HRi.out _ _ HR2.out _)))))
                refine wpQuiet_nil ?_
                rintro _ ⟨pq, rfl⟩
                have hq := grows hb pq.below
                generalize pq.world = wq at hq ⊢
                go_wp2
                go_roundw
                case rel => exact ⟨j + 1 + 1, by omega, by go_num, by rw [HN.out], hq⟩
                case measure => simp [intOf]; omega
    · obtain rfl : k = ls.length := by omega
      have hF := HFi.out
      obtain ⟨f, hf⟩ : ∃ f, rightL ls = f := ⟨_, rfl⟩
      rw [hF, hf]
      have HVr := Lib.hid (HV1.out.below hb)
      have CR : Hid (Calls Try.prog 18 #[.slice ad ls.length cap] wr fun e w' => e = .returned (.bool f) ∧ Below wr.heap.size wr w') := Lib.hid (by rw [← hf]; exact right_rows _ ls wr HVr.out (by omega))
      have CP : Hid (∀ w', Below wr.heap.size wr w' → Calls Try.prog 20 #[.slice ad ls.length cap] w' fun e w'' => e = .returned (.string (putP ls)) ∧ Below w'.heap.size w' w'') := Lib.hid fun w' h => put_rows _ ls w' (HVr.out.below h) (by omega)
      have CT : Hid (∀ w', Below wr.heap.size wr w' → Calls Try.prog 22 #[.slice ad ls.length cap] w' fun e w'' => e = .returned (.string (textP ls)) ∧ Below w'.heap.size w' w'') := Lib.hid fun w' h => text_rows _ ls w' (HVr.out.below h) (by omega)
      have hp : ((putP ls).toList == ([] : List UInt8)) = !f := by
        cases f with
        | true =>
          have := putP_pos hf
          rw [Lib.toList_data, Bool.not_true, beq_eq_false_iff_ne]
          intro h
          rw [← size_list, h] at this
          exact absurd this (Nat.lt_irrefl _)
        | false =>
          unfold putP
          rw [if_neg (by rw [hf]; simp), Lib.toList_data]
          rfl
      have ht : ((textP ls).toList == [63]) = !f := by
        cases f with
        | true =>
          rw [Bool.not_true, beq_eq_false_iff_ne]
          intro h
          refine textP_ne hf (toList_inj ?_)
          rw [h, Lib.toList_data]
        | false =>
          unfold textP
          rw [if_neg (by rw [hf]; simp), Lib.toList_data]
          rfl
      obtain ⟨P1, hP1⟩ : ∃ x, x = putP ls := ⟨_, rfl⟩
      obtain ⟨T1, hT1⟩ : ∃ x, x = textP ls := ⟨_, rfl⟩
      rw [← hP1] at CP hp
      rw [← hT1] at CT ht
      have hbF := grows hw1 hb
      clear hF hf hP1 hT1 hb
      cases f with
      | true =>
        have hp' : P1.toList.isEmpty = false := by cases h : P1.toList with
          | nil => rw [h] at hp; cases hp
          | cons _ _ => rfl
        have hp2 : ¬ P1.toList = [] := by intro h; rw [h] at hp'; cases hp'
        go_wp2_with fail
        refine CR.out.mono ?_
        rintro e w4 ⟨rfl, b4⟩
        go_wp2_with fail
        refine (CP.out _ b4).mono ?_
        rintro e w5 ⟨rfl, hw5⟩
        have b5 := grows b4 hw5
        go_wp2_with fail
        refine (CT.out _ b5).mono ?_
        rintro e w6 ⟨rfl, hw6⟩
        have b6 := grows hbF (grows b5 hw6)
        go_wp2
        go_ret
        exact ⟨rfl, b6⟩
      | false =>
        have hp2 : P1.toList = [] := by rw [beq_iff_eq.1 hp]
        go_wp2_with fail
        refine CR.out.mono ?_
        rintro e w4 ⟨rfl, b4⟩
        go_wp2_with fail
        refine (CP.out _ b4).mono ?_
        rintro e w5 ⟨rfl, hw5⟩
        have b5 := grows b4 hw5
        go_wp2_with fail
        refine (CT.out _ b5).mono ?_
        rintro e w6 ⟨rfl, hw6⟩
        have b6 := grows hbF (grows b5 hw6)
        go_wp2
        go_ret
        exact ⟨rfl, b6⟩

open Go.ChangeShapes Go.WideShapes Go.ChangeAt
set_option maxRecDepth 100000 in
theorem lifted (os : Os) (started : os.Started) (H : Type) (enc : TypeId × Value → H) :
    ReturnsInHanded {} Try.checked os 7 .any (Rows.labelRightSpec.pre6 enc Try.prog Try.f7 Rows.labelRightRow.domain false) (Rows.labelRightSpec.post enc Try.prog Try.f7 false true false false) := by
  refine returnsInHanded_of_change_sized (C := Try.checked) Ends.own started (by kernel_rfl) Try.func7
    (ChangeSpec.witness6 (enc := enc) (C := Try.checked) false ⟨#[], #[.slice none 0 0], []⟩ 8 (by kernel_rfl) (by kernel_rfl) (by kernel_rfl) (by kernel_rfl)) ?_
  intro W base args ds gs before hval0 hW _ hsz0 _
  have hval : ∀ (j : Nat) t v, Try.f7.params[j]? = some t → args[j]? = some v → Value.okWide Try.prog W .any base t v := hval0
  have hsz : (DataW.weightsEach Try.prog (Try.f7.params.toList ++ Rows.labelRightSpec.plain.varTypes Try.prog) (ds ++ gs)).all (· ≤ reachBytes) = true := hsz0
  have hW' := hW
  obtain ⟨p, q, hA0, hV, rfl, hfz, hnd⟩ := hW
  have hA : DataW.TrodAll enc Try.prog W 0 (fun _ => true) true Try.f7.params.toList args.toList ds p := hA0
  rw [Try.params7] at hA hval hsz
  obtain ⟨v0, vs0, d0, ds0, p0, q0, hargs, rfl, rfl, h0, r0⟩ := trodAll_cons hA
  obtain ⟨rfl, rfl, rfl⟩ := trodAll_nil r0
  obtain rfl : args = #[v0] := by cases args; simp_all
  obtain ⟨rfl, rfl⟩ := trodVars_none hV
  obtain ⟨a0, w0, b0⟩ := Label.open_pairs Try.underlying22 (f0 := (Try.prog.fieldsOf 48)[0]!) (f1 := (Try.prog.fieldsOf 48)[1]!) (by kernel_rfl) (by kernel_rfl) (by kernel_rfl) (by kernel_rfl) (by kernel_rfl) (by kernel_rfl) (by kernel_rfl) (by kernel_rfl) (by kernel_rfl) hsz (j := 0) rfl rfl (hval 0 22 v0 rfl rfl) h0
  refine (walk v0 a0 b0 W w0).mono fun e W' ⟨he, hb⟩ => ?_
  subst he
  exact ⟨_, rfl, Ends.law_end Ends.laidOut (by rw [Try.params7]; decide +kernel) rfl (by kernel_rfl) Try.underlying4 hW' rfl hb⟩

/-- The statement. -/
theorem proved : Rows.LabelRightSaid :=
  OpenClaim.holds_of_wide 7 Try.f7 rfl rfl rfl rfl rfl rfl rfl ⟨rfl, rfl, rfl, rfl, rfl⟩ rfl rfl rfl rfl rfl (by kernel_rfl) Try.func7 (by kernel_rfl)
    (of_decide_eq_true (by kernel_rfl)) (by unfold Func.isWrapper; first | (rw [if_pos (by decide +kernel)]; kernel_rfl) | (rw [if_neg (by decide +kernel)]; exact ⟨rfl, rfl⟩))
    (fun os started H enc _ => lifted os started H enc)
end Go.Proofs.Ytpkaejacnblplaa.labelRight
