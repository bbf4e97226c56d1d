/- What the document's own Put and Text answer of any labels; of memory that was there nothing turns. -/
import Derived.Test.YtpkaejacnblplaaRFind
import Derived.Test.YtpkaejacnblplaaRefTextV
namespace Go.Proofs.Ytpkaejacnblplaa.Label
open Go.RowKit Go.Proofs.Ytpkaejacnblplaa.Word

theorem append_three (a b c : ByteArray) : a ++ b ++ c = a ++ (b ++ c) := by apply ByteArray.ext; simp
set_option maxHeartbeats 4000000 in
set_option maxRecDepth 100000 in
theorem refPut_rows (v : Value) (ls : List Pr) (w : World) (hv : Row w v ls) (hz : ∀ x ∈ ls, x.1.size ≤ 4611686018427387904 ∧ x.2.size ≤ 4611686018427387904) (hl : ls.length ≤ 4611686018427387904) :
    Calls Try.prog 21 #[v] w fun e w' => e = .returned (.string (putP ls)) ∧ Below w.heap.size w w' := by
  have HR := Lib.hid (refRight_rows v ls w hv hz hl)
  obtain ⟨q, hq⟩ : ∃ q, rightL ls = q := ⟨_, rfl⟩
  rw [hq] at HR
  obtain ⟨ad, cap, rfl⟩ := hv.slice
  have HV := Lib.hid hv
  clear hv hz
  cases q with
  | false =>
    have HE : Hid (putP ls = ⟨#[]⟩) := Lib.hid (by unfold putP; rw [if_neg (by rw [hq]; simp)])
    clear hq
    go_enter Try.func21, Try.ntmps21
    go_wp2_with fail
    refine HR.out.mono ?_
    rintro e w1 ⟨rfl, hb⟩
    go_wp2
    go_ret
    exact ⟨by rw [HE.out]; rfl, hb⟩
  | true =>
    obtain ⟨h8, hnames, _⟩ := rightL_parts hq
    have HN := Lib.hid hnames
    have HE : Hid (putP ls = putAcc (Wire.str (Wire.putL ls.length)) ls) := Lib.hid (by unfold putP; rw [if_pos hq])
    have hten : (Wire.str (Wire.putL ls.length)).size ≤ 10 := by rw [Wire.str_size]; exact Wire.putL_ten (by omega)
    have HPu := Lib.hid (Wire.refPut_any ls.length (by omega))
    obtain ⟨c0, hc0⟩ : ∃ c0, c0 = Wire.str (Wire.putL ls.length) := ⟨_, rfl⟩
    rw [← hc0] at HE hten HPu
    have HPT : Hid (∀ t : ByteArray, t.size ≤ 32 → ∀ w, Calls Try.prog 45 #[.string t] w fun e w' => e = .returned (.string (textB t)) ∧ Below w.heap.size w w') := Lib.hid fun t ht w => Wire.refPutText_any t (by omega) w
    clear hq hnames hc0
    go_enter Try.func21, Try.ntmps21
    go_wp2_with fail
    refine HR.out.mono ?_
    rintro e w1 ⟨rfl, hb⟩
    go_wp2_with fail
    refine (HPu.out _).mono ?_
    rintro e w2 ⟨rfl, hb2⟩
    have hb' := grows hb hb2
    have HV2 := Lib.hid (HV.out.below hb')
    clear hb hb2
    go_wp2_with fail
    go_loopw [3, 4] (fun t i wr => ∃ k : Nat, k ≤ ls.length ∧ i = .int .i64 k ∧ t = .string (putAcc c0 (ls.take k)) ∧ Below w2.heap.size w2 wr) (fun _ i _ => ls.length - (intOf i).toNat)
    case atStart => exact ⟨0, Nat.zero_le _, rfl, rfl, Below.refl _ _⟩
    case round =>
      obtain ⟨k, hk, rfl, rfl, hb⟩ := hrel
      by_cases hlt : k < ls.length
      · have hltz : (k : Int) < (ls.length : Int) := by omega
        have hk0 : (0 : Int) ≤ (k : Int) := by omega
        obtain ⟨g, o, rfl, hg, hc⟩ := HV2.out.cells hlt
        obtain ⟨x, hx⟩ : ∃ x, ls[k]? = some x := ⟨_, List.getElem?_eq_getElem hlt⟩
        have hgr : g < wr.heap.size := Nat.lt_of_lt_of_le hg hb.size
        have c1 : ∀ p : Quiet.Behind wr, p.world.cell? ⟨g, o + k * 2, none⟩ = some (.string x.1) := fun p => Quiet.cell (a := ⟨g, o + k * 2, none⟩) hgr (hc.below hg hb k x hx).1 p
        have c2 : ∀ p : Quiet.Behind wr, p.world.cell? ⟨g, o + k * 2 + 1, none⟩ = some (.string x.2) := fun p => Quiet.cell (a := ⟨g, o + k * 2 + 1, none⟩) hgr (hc.below hg hb k x hx).2 p
        have hsz := lacks_size (HN.out x (List.mem_of_getElem? hx))
        have h1 := textB_size x.1 hsz.1
        have h2 := textB_size x.2 hsz.2
        have hacc := putAcc_size c0 (ls.take k) (fun y hy => HN.out y (List.mem_of_mem_take hy))
        have htk := List.length_take_le k ls
        have HP1 := Lib.hid (HPT.out x.1 hsz.1)
        have HP2 := Lib.hid (HPT.out x.2 hsz.2)
        have HT : Hid (putAcc c0 (ls.take (k + 1)) = putAcc c0 (ls.take k) ++ textB x.1 ++ textB x.2) := Lib.hid (by rw [append_three, ← putAcc_snoc, List.take_add_one, hx]; rfl)
        obtain ⟨acc, hac⟩ : ∃ acc, acc = putAcc c0 (ls.take k) := ⟨_, rfl⟩
        rw [← hac] at hacc HT ⊢
        obtain ⟨x1, x2⟩ := x
        obtain ⟨t1, ht1⟩ : ∃ t1, t1 = textB x1 := ⟨_, rfl⟩
        obtain ⟨t2, ht2⟩ : ∃ t2, t2 = textB x2 := ⟨_, rfl⟩
        rw [← ht1] at HP1 h1 HT
        rw [← ht2] at HP2 h2 HT
        have ha6 : acc.size ≤ 700 := by omega
        have hadd1 : ∀ w, Sem.run Try.prog (Op.stringOp .add acc t1) w = .ok (.string (acc ++ t1)) w := fun w => run_string_add_sum w _ _ (by omega)
        have hadd2 : ∀ w, Sem.run Try.prog (Op.stringOp .add (acc ++ t1) t2) w = .ok (.string (acc ++ t1 ++ t2)) w := fun w => run_string_add_sum w _ _ (by rw [ByteArray.size_append]; omega)
        clear hac hacc htk hx hsz ht1 ht2 hc
        go_wp2_with fail
        refine Quiet.region (by kernel_rfl) (by kernel_rfl) ?_
        repeat (go_big_quiet_step (first | (go_at_call 45; (with_reducible exact Quiet.calls (HP1.out _))) | (go_at_call 45; (with_reducible exact Quiet.calls (HP2.out _)))))
        refine wpQuiet_nil ?_
        rintro _ ⟨pq, rfl⟩
        have hq := grows hb pq.below
        generalize pq.world = wq at hq ⊢
        go_wp2
        go_roundw
        case rel => exact ⟨k + 1, by omega, by go_num, by rw [HT.out], hq⟩
        case measure => simp [intOf]; omega
      · obtain rfl : k = ls.length := by omega
        go_wp2
        go_ret
        refine ⟨?_, grows hb' hb⟩
        rw [HE.out, List.take_length]
        rfl

theorem joinP_snoc : ∀ (ls : List Pr) (x : Pr), joinP (ls ++ [x]) = if ls = [] then x.1.data.toList ++ 61 :: x.2.data.toList else joinP ls ++ 44 :: (x.1.data.toList ++ 61 :: x.2.data.toList)
  | [], x => by rw [if_pos rfl]; exact joinP_one x
  | [y], x => by
    rw [if_neg (by simp), joinP_one]
    show joinP (y :: x :: []) = _
    rw [joinP_more, joinP_one]
  | y :: z :: ls, x => by
    have ih := joinP_snoc (z :: ls) x
    rw [if_neg (by simp)] at ih ⊢
    show joinP (y :: z :: (ls ++ [x])) = _
    rw [joinP_more, joinP_more]
    have e : joinP (z :: (ls ++ [x])) = joinP (z :: ls ++ [x]) := rfl
    rw [e, ih]
    simp
theorem joinP_len {ls : List Pr} (h : ∀ x ∈ ls, lacks x = false) : (joinP ls).length ≤ 66 * ls.length := by
  have := join_len (ls.map fun x => (piece x).data.toList) (fun y hy => by
    obtain ⟨x, hx, rfl⟩ := List.mem_map.1 hy
    rw [size_list]; exact piece_size x (h x hx))
  rw [List.length_map] at this
  exact this

set_option maxHeartbeats 4000000 in
set_option maxRecDepth 100000 in
theorem refText_rows (v : Value) (ls : List Pr) (w : World) (hv : Row w v ls) (hz : ∀ x ∈ ls, x.1.size ≤ 4611686018427387904 ∧ x.2.size ≤ 4611686018427387904) (hl : ls.length ≤ 4611686018427387904) :
    Calls Try.prog 23 #[v] w fun e w' => e = .returned (.string (textP ls)) ∧ Below w.heap.size w w' := by
  have HR := Lib.hid (refRight_rows v ls w hv hz hl)
  obtain ⟨q, hq⟩ : ∃ q, rightL ls = q := ⟨_, rfl⟩
  rw [hq] at HR
  obtain ⟨ad, cap, rfl⟩ := hv.slice
  have HV := Lib.hid hv
  clear hv hz
  cases q with
  | false =>
    have HE : Hid (textP ls = ⟨#[63]⟩) := Lib.hid (by unfold textP; rw [if_neg (by rw [hq]; simp)])
    clear hq
    go_enter Try.func23, Try.ntmps23
    go_wp2_with fail
    refine HR.out.mono ?_
    rintro e w1 ⟨rfl, hb⟩
    go_wp2
    go_ret
    exact ⟨by rw [HE.out]; rfl, hb⟩
  | true =>
    obtain ⟨h8, hnames, _⟩ := rightL_parts hq
    have HN := Lib.hid hnames
    have HQ := Lib.hid hq
    clear hq hnames
    go_enter Try.func23, Try.ntmps23
    go_wp2_with fail
    refine HR.out.mono ?_
    rintro e w2 ⟨rfl, hb'⟩
    have HV2 := Lib.hid (HV.out.below hb')
    go_wp2_with fail
    go_loopw [3, 4] (fun t i wr => ∃ k : Nat, k ≤ ls.length ∧ i = .int .i64 k ∧ t = .string (str (joinP (ls.take k))) ∧ Below w2.heap.size w2 wr) (fun _ i _ => ls.length - (intOf i).toNat)
    case atStart => exact ⟨0, Nat.zero_le _, rfl, rfl, Below.refl _ _⟩
    case round =>
      obtain ⟨k, hk, rfl, rfl, hb⟩ := hrel
      by_cases hlt : k < ls.length
      · have hltz : (k : Int) < (ls.length : Int) := by omega
        have hk0 : (0 : Int) ≤ (k : Int) := by omega
        obtain ⟨g, o, rfl, hg, hc⟩ := HV2.out.cells hlt
        obtain ⟨x, hx⟩ : ∃ x, ls[k]? = some x := ⟨_, List.getElem?_eq_getElem hlt⟩
        obtain ⟨c1, c2⟩ := hc.below hg hb k x hx
        have hsz := lacks_size (HN.out x (List.mem_of_getElem? hx))
        have HT : Hid (joinP (ls.take (k + 1)) = if ls.take k = [] then x.1.data.toList ++ 61 :: x.2.data.toList else joinP (ls.take k) ++ 44 :: (x.1.data.toList ++ 61 :: x.2.data.toList)) := Lib.hid (by rw [← joinP_snoc, List.take_add_one, hx]; rfl)
        have hjl := joinP_len (ls := ls.take k) (fun y hy => HN.out y (List.mem_of_mem_take hy))
        have htk := List.length_take_le k ls
        have hak : (str (joinP (ls.take k))).size ≤ 600 := by rw [str_size]; omega
        obtain ⟨acc, hac⟩ : ∃ acc, acc = str (joinP (ls.take k)) := ⟨_, rfl⟩
        have HAC := Lib.hid hac
        rw [← hac] at hak ⊢
        obtain ⟨x1, x2⟩ := x
        have hs1 : x1.size ≤ 32 := hsz.1
        have hs2 : x2.size ≤ 32 := hsz.2
        clear hac hjl htk hx hsz hc
        by_cases hkz : k = 0
        · have hz2 : ¬ 0 < k := by omega
          have hz3 : decide (0 < k) = false := decide_eq_false hz2
          have hz1 : ¬ (0 : Int) < (k : Int) := by omega
          have HTT : Hid (str (joinP (ls.take (k + 1))) = acc ++ x1 ++ ⟨#[61]⟩ ++ x2) := Lib.hid (by
            rw [HT.out, HAC.out, hkz]
            simp only [List.take_zero, if_true]
            apply ByteArray.ext
            simp [str, joinP, Lib.join, List.intercalate])
          have a1 : ∀ w, Sem.run Try.prog (Op.stringOp .add acc x1) w = .ok (.string (acc ++ x1)) w := fun w => run_string_add_sum w _ _ (by omega)
          have a2 : ∀ w, Sem.run Try.prog (Op.stringOp .add (acc ++ x1) ⟨#[61]⟩) w = .ok (.string (acc ++ x1 ++ ⟨#[61]⟩)) w := fun w => run_string_add_sum w _ _ (by rw [ByteArray.size_append]; show acc.size + x1.size + 1 ≤ _; omega)
          have a3 : ∀ w, Sem.run Try.prog (Op.stringOp .add (acc ++ x1 ++ ⟨#[61]⟩) x2) w = .ok (.string (acc ++ x1 ++ ⟨#[61]⟩ ++ x2)) w := fun w => run_string_add_sum w _ _ (by rw [ByteArray.size_append, ByteArray.size_append]; show acc.size + x1.size + 1 + x2.size ≤ _; omega)
          clear hkz
          go_wp2_with fail
          go_quiet (fail)
          go_wp2
          go_roundw
          case rel => exact ⟨k + 1, by omega, by go_num, by rw [HTT.out], below_drewN hb _⟩
          case measure => simp [intOf]; omega
        · have hz2 : 0 < k := by omega
          have hz1 : (0 : Int) < (k : Int) := by omega
          have HTT : Hid (str (joinP (ls.take (k + 1))) = acc ++ ⟨#[44]⟩ ++ x1 ++ ⟨#[61]⟩ ++ x2) := Lib.hid (by
            rw [HT.out, HAC.out, if_neg (by intro h; have := congrArg List.length h; rw [List.length_take, List.length_nil] at this; omega)]
            apply ByteArray.ext
            simp [str])
          have a0 : ∀ w, Sem.run Try.prog (Op.stringOp .add acc ⟨#[44]⟩) w = .ok (.string (acc ++ ⟨#[44]⟩)) w := fun w => run_string_add_sum w _ _ (by show acc.size + 1 ≤ _; omega)
          obtain ⟨acc1, hac1⟩ : ∃ a, a = acc ++ ⟨#[44]⟩ := ⟨_, rfl⟩
          have hsa : acc1.size ≤ 601 := by rw [hac1, ByteArray.size_append]; show acc.size + 1 ≤ _; omega
          rw [← hac1] at a0 HTT
          have a1 : ∀ w, Sem.run Try.prog (Op.stringOp .add acc1 x1) w = .ok (.string (acc1 ++ x1)) w := fun w => run_string_add_sum w _ _ (by omega)
          have a2 : ∀ w, Sem.run Try.prog (Op.stringOp .add (acc1 ++ x1) ⟨#[61]⟩) w = .ok (.string (acc1 ++ x1 ++ ⟨#[61]⟩)) w := fun w => run_string_add_sum w _ _ (by rw [ByteArray.size_append]; show acc1.size + x1.size + 1 ≤ _; omega)
          have a3 : ∀ w, Sem.run Try.prog (Op.stringOp .add (acc1 ++ x1 ++ ⟨#[61]⟩) x2) w = .ok (.string (acc1 ++ x1 ++ ⟨#[61]⟩ ++ x2)) w := fun w => run_string_add_sum w _ _ (by rw [ByteArray.size_append, ByteArray.size_append]; show acc1.size + x1.size + 1 + x2.size ≤ _; omega)
          clear hac1
          go_wp2_with fail
          go_quiet (fail)
          go_wp2
          go_roundw
          case rel => exact ⟨k + 1, by omega, by go_num, by rw [HTT.out], below_drewN hb _⟩
          case measure => simp [intOf]; omega
      · obtain rfl : k = ls.length := by omega
        rw [List.take_length]
        have hbF := grows hb' hb
        by_cases h0 : ls = []
        · have he : (str (joinP ls)).toList = [] := by rw [h0, Lib.toList_data, str_toList]; rfl
          have HE : Hid (textP ls = ⟨#[45]⟩) := Lib.hid (by rw [h0]; rfl)
          obtain ⟨T, hT⟩ : ∃ T, T = str (joinP ls) := ⟨_, rfl⟩
          rw [← hT] at he ⊢
          have he2 : (T.toList == ([] : List UInt8)) = true := by rw [he]; rfl
          clear hT h0
          go_wp2
          go_ret
          exact ⟨by rw [HE.out]; rfl, hbF⟩
        · have HE : Hid (textP ls = str (joinP ls)) := Lib.hid (by unfold textP; rw [if_pos HQ.out, if_neg h0]; rfl)
          have he : (str (joinP ls)).toList ≠ [] := by
            rw [Lib.toList_data, str_toList]
            cases ls with
            | nil => exact absurd rfl h0
            | cons y r => intro h; have := mem_joinP y r; rw [h] at this; simp at this
          obtain ⟨T, hT⟩ : ∃ T, T = str (joinP ls) := ⟨_, rfl⟩
          rw [← hT] at he HE ⊢
          have he2 : (T.toList == ([] : List UInt8)) = false := by rw [beq_eq_false_iff_ne]; exact he
          have he3 : T.toList.isEmpty = false := by cases h : T.toList with
            | nil => exact absurd h he
            | cons _ _ => rfl
          clear hT h0
          go_wp2
          go_ret
          exact ⟨by rw [HE.out]; rfl, hbF⟩
end Go.Proofs.Ytpkaejacnblplaa.Label
