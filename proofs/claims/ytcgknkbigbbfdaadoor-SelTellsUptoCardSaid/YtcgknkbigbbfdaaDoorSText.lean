/- What strings.Join answers of a few texts at one byte, and sel.termText and sel.Text of any term that is right and any selector; of memory that was there nothing turns. -/
import Derived.Test.YtcgknkbigbbfdaaDoorSPutV
import Derived.Test.YtcgknkbigbbfdaaDoorSShelf
namespace Go.Proofs.YtcgknkbigbbfdaaDoor.Sel
open Go.RowKit Go.Proofs.YtcgknkbigbbfdaaDoor.Texts Go.Proofs.YtcgknkbigbbfdaaDoor.Word Go.Proofs.YtcgknkbigbbfdaaDoor.Label Go.Proofs.YtcgknkbigbbfdaaDoor.Forms

theorem join_glue (c : UInt8) : ∀ l : List (List UInt8), Lib.join l [c] = glueC c l
  | [] => rfl
  | [a] => by rw [Lib.join_one]; rfl
  | a :: b :: r => by
    have e : Lib.join (a :: b :: r) [c] = a ++ [c] ++ Lib.join (b :: r) [c] := by simp [Lib.join, List.intercalate, List.intersperse]
    rw [e, join_glue c (b :: r)]
    simp [glueC]
theorem join_any (c : UInt8) (v : Value) (ts : List ByteArray) (w : World) (hv : SRow w v ts) (hne : ts ≠ []) (hlen : (glueC c (ts.map fun t => t.data.toList)).length ≤ 140737488355328) (hl : ts.length ≤ 140737488355328) :
    Calls Tryd.prog 51 #[v, .string ⟨#[c]⟩] w fun e w' => e = .returned (.string (str (glueC c (ts.map fun t => t.data.toList)))) ∧ Below w.heap.size w w' := by
  rcases hv with ⟨h, _⟩ | ⟨_, g, o, cap, rfl, hg, hcap, hm, hcell⟩
  · exact absurd h hne
  · have hj := Any.strings_Join Laid.lays156 Laid.Builder_Extra_156 g o cap ts ⟨#[c]⟩ w (fun j y hy => hcell j y hy) hg (by omega) hcap (by rw [join_glue]; omega)
    rw [join_glue] at hj
    exact hj

theorem glue_small (c : UInt8) : ∀ (vs : List ByteArray), (∀ v ∈ vs, v.size ≤ 32) → (glueC c (vs.map fun t => t.data.toList)).length ≤ 33 * vs.length
  | [], _ => by simp [glueC]
  | [a], h => by
    have := h a (List.mem_cons_self ..)
    rw [← size_list] at this
    simp only [List.map_cons, List.map_nil, glueC, List.length_cons, List.length_nil]
    omega
  | a :: b :: r, h => by
    have h1 := h a (List.mem_cons_self ..)
    have h2 := glue_small c (b :: r) (fun y hy => h y (List.mem_cons_of_mem _ hy))
    rw [← size_list] at h1
    simp only [List.map_cons, glueC, List.length_append, List.length_cons] at h2 ⊢
    omega
theorem show_small {t : Tm} (ht : rightT t = true) : (showT t).length ≤ 200 := by
  obtain ⟨h1, h2, h3, _⟩ := rightT_parts ht
  have a1 := name_size h1
  rw [← size_list] at a1
  have a2 := glue_small 124 t.2.2 (fun v hv => name_size (h3 v hv))
  unfold showT
  split
  · split
    · rw [List.length_cons]; omega
    · omega
  · rw [List.length_append, List.length_append, List.length_cons]
    split
    · simp only [List.length_cons, List.length_nil]; omega
    · simp only [List.length_nil]; omega
theorem assert_some (v : Value) (w : World) : Sem.run Tryd.prog (Instr.typeAssert (.iface 104 v) 100 104 true) w = .ok (.tuple #[v, .bool true]) w := by kernel_rfl
theorem assert_none (w : World) : Sem.run Tryd.prog (Instr.typeAssert (.iface 115 (.agg #[])) 100 104 true) w = .ok (.tuple #[.slice none 0 0, .bool false]) w := by kernel_rfl
theorem str_one (c : UInt8) : (⟨#[c]⟩ : ByteArray) = str [c] := rfl
theorem str_nil : (⟨#[]⟩ : ByteArray) = str [] := rfl

set_option maxHeartbeats 1000000 in
set_option maxRecDepth 100000 in
theorem termText_none (k : ByteArray) (n : Bool) (a : Option Addr) (cap : Nat) (w : World) (hk : k.size ≤ 32) :
    Calls Tryd.prog 50 #[.agg #[.string k, .bool n, .slice a 0 cap]] w fun e w' => e = .returned (.string (str (showT (k, n, [])))) ∧ Below w.heap.size w w' := by
  have HK := Lib.hid (kind_none k n a cap)
  have hta := assert_none
  cases n with
  | true =>
    have HE : Hid ((⟨#[33]⟩ : ByteArray) ++ k = str (showT (k, true, []))) := Lib.hid (by
      rw [str_one]
      conv => lhs; rhs; rw [← str_data k]
      rw [str_append]
      simp [showT])
    have hadd1 : ∀ w, Sem.run Tryd.prog (Op.stringOp .add ⟨#[33]⟩ k) w = .ok (.string (⟨#[33]⟩ ++ k)) w := fun w => run_string_add_sum w _ k (by show 1 + k.size ≤ _; omega)
    go_enter Tryd.func50, Tryd.ntmps50
    go_wp2_with fail
    with_reducible refine (HK.out _).mono ?_
    rintro e w1 ⟨rfl, hb1⟩
    obtain ⟨hB, c0, c1, c2⟩ := cell_new hb1
    have hb := grows (grew w _) hb1
    clear hb1
    go_wp2
    go_ret
    exact ⟨by rw [← HE.out]; rfl, hb⟩
  | false =>
    have HE : Hid ((⟨#[]⟩ : ByteArray) ++ k = str (showT (k, false, []))) := Lib.hid (by
      rw [str_nil]
      conv => lhs; rhs; rw [← str_data k]
      rw [str_append]
      simp [showT])
    have hadd1 : ∀ w, Sem.run Tryd.prog (Op.stringOp .add ⟨#[]⟩ k) w = .ok (.string (⟨#[]⟩ ++ k)) w := fun w => run_string_add_sum w _ k (by show 0 + k.size ≤ _; omega)
    go_enter Tryd.func50, Tryd.ntmps50
    go_wp2_with fail
    with_reducible refine (HK.out _).mono ?_
    rintro e w1 ⟨rfl, hb1⟩
    obtain ⟨hB, c0, c1, c2⟩ := cell_new hb1
    have hb := grows (grew w _) hb1
    clear hb1
    go_wp2
    go_ret
    exact ⟨by rw [← HE.out]; rfl, hb⟩

set_option maxHeartbeats 1000000 in
set_option maxRecDepth 100000 in
theorem termText_some (k : ByteArray) (n : Bool) (a : Option Addr) (cap : Nat) (vs : List ByteArray) (w : World) (hk : k.size ≤ 32) (h0 : 0 < vs.length) (hv : SRow w (.slice a vs.length cap) vs) (h4 : vs.length ≤ 4) (h32 : ∀ v ∈ vs, v.size ≤ 32) :
    Calls Tryd.prog 50 #[.agg #[.string k, .bool n, .slice a vs.length cap]] w fun e w' => e = .returned (.string (str (showT (k, n, vs)))) ∧ Below w.heap.size w w' := by
  have HK := Lib.hid (kind_some k n a vs.length cap h0)
  have hta := assert_some
  have hg := glue_small 124 vs h32
  have hne : vs ≠ [] := List.length_pos_iff.1 h0
  have HJ : Hid (∀ W W', SRow W (.slice a vs.length cap) vs → Below W.heap.size W W' → Calls Tryd.prog 51 #[.slice a vs.length cap, .string ⟨#[124]⟩] W' fun e w' => e = .returned (.string (str (glueC 124 (vs.map fun t => t.data.toList)))) ∧ Below W'.heap.size W' w') := Lib.hid fun W W' h hb => join_any 124 _ vs W' (h.below hb) hne (by omega) (by omega)
  have hj : (str (glueC 124 (vs.map fun t => t.data.toList))).size ≤ 132 := by rw [str_len]; omega
  obtain ⟨J, hJ⟩ : ∃ J, J = str (glueC 124 (vs.map fun t => t.data.toList)) := ⟨_, rfl⟩
  have HV := Lib.hid hv
  have HE : Hid (∀ sg : ByteArray, sg = (if n = true then ⟨#[33]⟩ else ⟨#[]⟩) → k ++ sg ++ ⟨#[61]⟩ ++ J = str (showT (k, n, vs))) := Lib.hid (by
    rintro sg rfl
    rw [hJ]
    conv => lhs; lhs; lhs; lhs; rw [← str_data k]
    unfold showT
    rw [if_neg hne]
    cases n with
    | true => simp only [if_true]; rw [str_one, str_one, str_append, str_append, str_append]; simp
    | false => simp only [Bool.false_eq_true, if_false]; rw [str_one, str_nil, str_append, str_append, str_append]; simp)
  rw [← hJ] at HJ hj
  clear hJ hg hne h32 hv
  have hadd3 : ∀ w sg, sg.size ≤ 1 → Sem.run Tryd.prog (Op.stringOp .add (k ++ sg ++ ⟨#[61]⟩) J) w = .ok (.string (k ++ sg ++ ⟨#[61]⟩ ++ J)) w := fun w sg hs => run_string_add_sum w _ J (by rw [ByteArray.size_append, ByteArray.size_append]; show k.size + sg.size + 1 + J.size ≤ _; omega)
  have hadd2 : ∀ w sg, sg.size ≤ 1 → Sem.run Tryd.prog (Op.stringOp .add (k ++ sg) ⟨#[61]⟩) w = .ok (.string (k ++ sg ++ ⟨#[61]⟩)) w := fun w sg hs => run_string_add_sum w _ _ (by rw [ByteArray.size_append]; show k.size + sg.size + 1 ≤ _; omega)
  have hadd1 : ∀ w sg, sg.size ≤ 1 → Sem.run Tryd.prog (Op.stringOp .add k sg) w = .ok (.string (k ++ sg)) w := fun w sg hs => run_string_add_sum w _ _ (by omega)
  cases n with
  | true =>
    have e1 := fun w => hadd1 w ⟨#[33]⟩ (by decide)
    have e2 := fun w => hadd2 w ⟨#[33]⟩ (by decide)
    have e3 := fun w => hadd3 w ⟨#[33]⟩ (by decide)
    clear hadd1 hadd2 hadd3
    go_enter Tryd.func50, Tryd.ntmps50
    go_wp2_with fail
    with_reducible refine (HK.out _).mono ?_
    rintro e w1 ⟨rfl, hb1⟩
    obtain ⟨hB, c0, c1, c2⟩ := cell_new hb1
    have hb := grows (grew w _) hb1
    have HV1 := Lib.hid (HV.out.below hb)
    clear hb1
    have q0 := Quiet.cell (a := ⟨w.heap.size, 0, none⟩) hB c0
    clear c0 c1 c2
    go_wp2_with fail
    refine Quiet.region (by kernel_rfl) (by kernel_rfl) ?_
    repeat (go_big_quiet_step (first | (go_at_call 51; (with_reducible exact Quiet.calls (HJ.out _ _ HV1.out (Quiet.Behind.below _))))))
    refine wpQuiet_nil ?_
    rintro _ ⟨pq, rfl⟩
    have hq := pq.below
    generalize pq.world = wq at hq ⊢
    go_wp2
    go_ret
    exact ⟨by rw [← HE.out _ rfl]; rfl, grows hb hq⟩
  | false =>
    have e1 := fun w => hadd1 w ⟨#[]⟩ (by decide)
    have e2 := fun w => hadd2 w ⟨#[]⟩ (by decide)
    have e3 := fun w => hadd3 w ⟨#[]⟩ (by decide)
    clear hadd1 hadd2 hadd3
    go_enter Tryd.func50, Tryd.ntmps50
    go_wp2_with fail
    with_reducible refine (HK.out _).mono ?_
    rintro e w1 ⟨rfl, hb1⟩
    obtain ⟨hB, c0, c1, c2⟩ := cell_new hb1
    have hb := grows (grew w _) hb1
    have HV1 := Lib.hid (HV.out.below hb)
    clear hb1
    have q0 := Quiet.cell (a := ⟨w.heap.size, 0, none⟩) hB c0
    clear c0 c1 c2
    go_wp2_with fail
    refine Quiet.region (by kernel_rfl) (by kernel_rfl) ?_
    repeat (go_big_quiet_step (first | (go_at_call 51; (with_reducible exact Quiet.calls (HJ.out _ _ HV1.out (Quiet.Behind.below _))))))
    refine wpQuiet_nil ?_
    rintro _ ⟨pq, rfl⟩
    have hq := pq.below
    generalize pq.world = wq at hq ⊢
    go_wp2
    go_ret
    exact ⟨by rw [← HE.out _ rfl]; rfl, grows hb hq⟩
theorem termText_any (v : Value) (t : Tm) (w : World) (hv : TermV w v t) (ht : rightT t = true) :
    Calls Tryd.prog 50 #[v] w fun e w' => e = .returned (.string (str (showT t))) ∧ Below w.heap.size w w' := by
  obtain ⟨s, rfl, hs⟩ := hv
  obtain ⟨h1, h2, h3, _⟩ := rightT_parts ht
  obtain ⟨sa, sc, rfl, _, _⟩ := hs.slice
  obtain ⟨k, n, vs⟩ := t
  cases vs with
  | nil => exact termText_none k n sa sc w (name_size h1)
  | cons v0 vs => exact termText_some k n sa sc (v0 :: vs) w (name_size h1) (by simp) hs h2 (fun v hv => name_size (h3 v hv))
end Go.Proofs.YtcgknkbigbbfdaaDoor.Sel
