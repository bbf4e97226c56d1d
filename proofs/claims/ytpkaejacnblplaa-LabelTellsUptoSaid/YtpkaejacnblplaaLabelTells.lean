/- Proved: demesnelaw04.LabelTells answers true for every slice of labels, every key, every text of bytes, every place and every text, all of which together hold at most 1,048,576 values and letters, and leaves them as they were. Condition: that bound (beyond it the document's own Cut may ask for more memory than any machine has). -/
import Derived.Test.YtpkaejacnblplaaEnd
import Derived.Test.YtpkaejacnblplaaLUpto
import Derived.Test.YtpkaejacnblplaaRParse
import Derived.JoinedCond
namespace Go.Proofs.Ytpkaejacnblplaa.labelTells
open Go.RowKit Go.Proofs.Ytpkaejacnblplaa.Label Go.Proofs.Ytpkaejacnblplaa.Word

/-- What Get and Parse tell, in one shape. -/
def TellsU (ms : List Pr) (f : Value → Value) (w : World) (e : Ending) (w' : World) : Prop := (∃ v, e = .returned (f v) ∧ Row w' v ms) ∧ Below w.heap.size w w'
theorem get_both (s : ByteArray) (hs : s.size ≤ 1048576) (p : Int) : ∃ (ms : List Pr) (n : Int) (b : Bool), ms.length ≤ 8 ∧
    (∀ w, Calls Try.prog 13 #[.string s, .int .i64 p] w (TellsU ms (fun v => .tuple #[v, .int .i64 n, .bool b]) w)) ∧
    (∀ w, Calls Try.prog 14 #[.string s, .int .i64 p] w (TellsU ms (fun v => .tuple #[v, .int .i64 n, .bool b]) w)) := by
  have h1 := get_rows s (by omega) p
  have h2 := refGet_rows s (by omega) p
  cases hg : getL s p with
  | none =>
    rw [hg] at h1 h2
    exact ⟨[], 0, false, by simp, fun w => (h1 w).mono fun e w' ⟨he, hb⟩ => ⟨⟨_, he, .inl ⟨rfl, _, _, rfl, Nat.zero_le _⟩⟩, hb⟩, fun w => (h2 w).mono fun e w' ⟨he, hb⟩ => ⟨⟨_, he, .inl ⟨rfl, _, _, rfl, Nat.zero_le _⟩⟩, hb⟩⟩
  | some x =>
    rw [hg] at h1 h2
    obtain ⟨ms, n⟩ := x
    exact ⟨ms, n, true, (rightL_parts (get_back hg).1).1, h1, h2⟩
theorem parse_both (s : ByteArray) (hs : s.size ≤ 1048576) : ∃ (ms : List Pr) (b : Bool), ms.length ≤ 8 ∧
    (∀ w, Calls Try.prog 15 #[.string s] w (TellsU ms (fun v => .tuple #[v, .bool b]) w)) ∧
    (∀ w, Calls Try.prog 16 #[.string s] w (TellsU ms (fun v => .tuple #[v, .bool b]) w)) := by
  have h1 := parse_any s (by omega)
  have h2 := refParse_rows s hs
  cases hg : parseL s with
  | none =>
    rw [hg] at h1 h2
    exact ⟨[], false, by simp, fun w => (h1 w).mono fun e w' ⟨he, hb⟩ => ⟨⟨_, he, .inl ⟨rfl, _, _, rfl, Nat.zero_le _⟩⟩, hb⟩, fun w => (h2 w).mono fun e w' ⟨he, hb⟩ => ⟨⟨_, he, .inl ⟨rfl, _, _, rfl, Nat.zero_le _⟩⟩, hb⟩⟩
  | some ms =>
    rw [hg] at h1 h2
    exact ⟨ms, true, (rightL_parts (parse_back hg).1).1, h1, h2⟩

set_option maxRecDepth 100000 in
set_option maxHeartbeats 4000000 in
theorem walk (v : Value) (ls : List Pr) (hl : ls.length ≤ 1048576) (hz : ∀ x ∈ ls, x.1.size ≤ 1048576 ∧ x.2.size ≤ 1048576) (key s : ByteArray) (hs : s.size ≤ 1048576) (p : Int) (t : ByteArray) (ht : t.size ≤ 1048576) (w : World) (hv : Row w v ls) :
    Calls Try.prog 3 #[v, .string key, .string s, .int .i64 p, .string t] w fun e w' => e = .returned (.bool true) ∧ Below w.heap.size w w' := by
  obtain ⟨ms, n, b, hm, g1, g2⟩ := get_both s hs p
  obtain ⟨ps, c, hp, q1, q2⟩ := parse_both t ht
  have hz' : ∀ x ∈ ls, x.1.size ≤ 4611686018427387904 ∧ x.2.size ≤ 4611686018427387904 := fun x hx => by have := hz x hx; omega
  have HV := Lib.hid hv
  have HG1 := Lib.hid g1
  have HG2 := Lib.hid g2
  have HQ1 := Lib.hid q1
  have HQ2 := Lib.hid q2
  have HRL : Hid (∀ w', Below w.heap.size w w' → Calls Try.prog 10 #[v] w' fun e w'' => (∃ u, e = .returned u ∧ Row w'' u ls) ∧ Below w'.heap.size w' w'') := Lib.hid fun w' h => refL_rows v ls w' (HV.out.below h) (by omega)
  obtain ⟨f, hf⟩ : ∃ f, f = (findL ls key).getD ⟨#[]⟩ := ⟨_, rfl⟩
  obtain ⟨fb, hfb⟩ : ∃ f, f = (findL ls key).isSome := ⟨_, rfl⟩
  have HF1 : Hid (∀ u w1 w2, Row w1 u ls → Below w1.heap.size w1 w2 → Calls Try.prog 11 #[u, .string key] w2 fun e w' => e = .returned (.tuple #[.string f, .bool fb]) ∧ Below w2.heap.size w2 w') := Lib.hid fun u w1 w2 h hb => by rw [hf, hfb]; exact find_any u ls key w2 (h.below hb) (by omega)
  have HF2 : Hid (∀ u w1 w2, Row w1 u ls → Below w1.heap.size w1 w2 → Calls Try.prog 12 #[u, .string key] w2 fun e w' => e = .returned (.tuple #[.string f, .bool fb]) ∧ Below w2.heap.size w2 w') := Lib.hid fun u w1 w2 h hb => by rw [hf, hfb]; exact refFind_rows u ls key w2 (h.below hb) (by omega)
  have HSL : Hid (∀ (xs : List Pr) u x w1 w2, xs.length ≤ 8 → Row w1 u xs → Row w1 x xs → Below w1.heap.size w1 w2 → Calls Try.prog 17 #[u, x] w2 fun e w' => e = .returned (.bool true) ∧ Below w2.heap.size w2 w') := Lib.hid fun xs u x w1 w2 hx h h' hb => by
    have := sameL_rows u x xs xs w2 (h.below hb) (h'.below hb) (by omega)
    rw [decide_eq_true rfl] at this
    exact this
  obtain ⟨r, hr⟩ : ∃ r, r = rightL ls := ⟨_, rfl⟩
  obtain ⟨P1, hP1⟩ : ∃ r, r = putP ls := ⟨_, rfl⟩
  obtain ⟨T1, hT1⟩ : ∃ r, r = textP ls := ⟨_, rfl⟩
  have HA1 : Hid (∀ u w1 w2, Row w1 u ls → Below w1.heap.size w1 w2 → Calls Try.prog 18 #[u] w2 fun e w' => e = .returned (.bool r) ∧ Below w2.heap.size w2 w') := Lib.hid fun u w1 w2 h hb => by rw [hr]; exact right_rows u ls w2 (h.below hb) (by omega)
  have HA2 : Hid (∀ u w1 w2, Row w1 u ls → Below w1.heap.size w1 w2 → Calls Try.prog 19 #[u] w2 fun e w' => e = .returned (.bool r) ∧ Below w2.heap.size w2 w') := Lib.hid fun u w1 w2 h hb => by rw [hr]; exact refRight_rows u ls w2 (h.below hb) hz' (by omega)
  have HB1 : Hid (∀ u w1 w2, Row w1 u ls → Below w1.heap.size w1 w2 → Calls Try.prog 20 #[u] w2 fun e w' => e = .returned (.string P1) ∧ Below w2.heap.size w2 w') := Lib.hid fun u w1 w2 h hb => by rw [hP1]; exact put_rows u ls w2 (h.below hb) (by omega)
  have HB2 : Hid (∀ u w1 w2, Row w1 u ls → Below w1.heap.size w1 w2 → Calls Try.prog 21 #[u] w2 fun e w' => e = .returned (.string P1) ∧ Below w2.heap.size w2 w') := Lib.hid fun u w1 w2 h hb => by rw [hP1]; exact refPut_rows u ls w2 (h.below hb) hz' (by omega)
  have HC1 : Hid (∀ u w1 w2, Row w1 u ls → Below w1.heap.size w1 w2 → Calls Try.prog 22 #[u] w2 fun e w' => e = .returned (.string T1) ∧ Below w2.heap.size w2 w') := Lib.hid fun u w1 w2 h hb => by rw [hT1]; exact text_rows u ls w2 (h.below hb) (by omega)
  have HC2 : Hid (∀ u w1 w2, Row w1 u ls → Below w1.heap.size w1 w2 → Calls Try.prog 23 #[u] w2 fun e w' => e = .returned (.string T1) ∧ Below w2.heap.size w2 w') := Lib.hid fun u w1 w2 h hb => by rw [hT1]; exact refText_rows u ls w2 (h.below hb) hz' (by omega)
  have ef : (f.toList == f.toList) = true := by simp
  have efb : (fb != fb) = false := by simp
  have en : (n != n) = false := by simp
  have eb : (b != b) = false := by simp
  have ec : (c != c) = false := by simp
  have er : (r == r) = true := by simp
  have eP : (P1.toList == P1.toList) = true := by simp
  have eT : (T1.toList == T1.toList) = true := by simp
  clear hv g1 g2 q1 q2 hf hfb hr hP1 hT1 hz hz'
  go_enter Try.func3, Try.ntmps3
  go_wp2_with fail
  refine (examples_any _).mono ?_
  rintro e w1 ⟨rfl, hw1⟩
  go_wp2_with fail
  refine (HRL.out _ hw1).mono ?_
  rintro e w2 ⟨⟨u, rfl, hu⟩, hw2⟩
  have hb2 := grows hw1 hw2
  have HV2 := Lib.hid (HV.out.below hb2)
  have HU2 := Lib.hid hu
  clear hw1 hw2 hu
  go_wp2_with fail
  refine (HF1.out _ _ _ HV2.out (Below.refl _ _)).mono ?_
  rintro e w3 ⟨rfl, b3⟩
  go_wp2_with fail
  refine (HF2.out _ _ _ HU2.out b3).mono ?_
  rintro e w4 ⟨rfl, hw4⟩
  have b4 := grows b3 hw4
  clear b3 hw4
  go_wp2_with fail
  refine (HG1.out _).mono ?_
  rintro e w5 ⟨⟨x1, rfl, hx1⟩, hw5⟩
  have b5 := grows b4 hw5
  clear b4 hw5
  go_wp2_with fail
  refine (HG2.out _).mono ?_
  rintro e w6 ⟨⟨x2, rfl, hx2⟩, hw6⟩
  have b6 := grows b5 hw6
  have HX1 := Lib.hid (hx1.below hw6)
  have HX2 := Lib.hid hx2
  clear b5 hw6 hx1 hx2
  go_wp2_with fail
  refine (HQ1.out _).mono ?_
  rintro e w7 ⟨⟨x3, rfl, hx3⟩, hw7⟩
  have b7 := grows b6 hw7
  have HX1' := Lib.hid (HX1.out.below hw7)
  have HX2' := Lib.hid (HX2.out.below hw7)
  clear b6 hw7 HX1 HX2
  go_wp2_with fail
  refine (HQ2.out _).mono ?_
  rintro e w8 ⟨⟨x4, rfl, hx4⟩, hw8⟩
  have b8 := grows b7 hw8
  have HX1 := Lib.hid (HX1'.out.below hw8)
  have HX2 := Lib.hid (HX2'.out.below hw8)
  have HX3 := Lib.hid (hx3.below hw8)
  have HX4 := Lib.hid hx4
  have HV8 := Lib.hid (HV2.out.below b8)
  have HU8 := Lib.hid (HU2.out.below b8)
  have hb8 := grows hb2 b8
  clear b7 hw8 HX1' HX2' hx3 hx4 b8 hb2 HV2 HU2
  go_wp2_with fail
  refine (HSL.out ms _ _ _ _ hm HX1.out HX2.out (Below.refl _ _)).mono ?_
  rintro e w9 ⟨rfl, b9⟩
  go_wp2_with fail
  refine (HSL.out ps _ _ _ _ hp HX3.out HX4.out b9).mono ?_
  rintro e w10 ⟨rfl, hw10⟩
  have b10 := grows b9 hw10
  clear b9 hw10
  go_wp2_with fail
  refine (HA1.out _ _ _ HV8.out b10).mono ?_
  rintro e w11 ⟨rfl, hw11⟩
  have b11 := grows b10 hw11
  clear b10 hw11
  go_wp2_with fail
  refine (HA2.out _ _ _ HU8.out b11).mono ?_
  rintro e w12 ⟨rfl, hw12⟩
  have b12 := grows b11 hw12
  clear b11 hw12
  go_wp2_with fail
  refine (HB1.out _ _ _ HV8.out b12).mono ?_
  rintro e w13 ⟨rfl, hw13⟩
  have b13 := grows b12 hw13
  clear b12 hw13
  go_wp2_with fail
  refine (HB2.out _ _ _ HU8.out b13).mono ?_
  rintro e w14 ⟨rfl, hw14⟩
  have b14 := grows b13 hw14
  clear b13 hw14
  go_wp2_with fail
  refine (HC1.out _ _ _ HV8.out b14).mono ?_
  rintro e w15 ⟨rfl, hw15⟩
  have b15 := grows b14 hw15
  clear b14 hw15
  go_wp2_with fail
  refine (HC2.out _ _ _ HU8.out b15).mono ?_
  rintro e w16 ⟨rfl, hw16⟩
  have b16 := grows hb8 (grows b15 hw16)
  clear b15 hw16
  go_wp2
  go_ret
  exact ⟨rfl, b16⟩

open Go.ChangeShapes Go.WideShapes Go.ChangeAt
set_option maxRecDepth 100000 in
theorem contract (H : Type) (enc : TypeId × Value → H) (W : World) (base : Nat) (args : Array Value) (ds gs : List (DataW H)) (before : List MemPlace)
    (hval : ∀ (j : Nat) t v, Try.f3.params[j]? = some t → args[j]? = some v → Value.okWide Try.prog W .any base t v)
    (hW : DataW.Whole enc Try.prog Try.f3.params.toList Rows.labelTellsSpec.vars false W args.toList ds gs before) (hk : Rows.uptoSmall H (ds ++ gs) = true) :
    Calls Try.prog 3 args W fun e W' => ∃ v, e = .returned v ∧ Rows.labelTellsSpec.post enc Try.prog Try.f3 false true false false W args v W' := by
  have hW' := hW
  obtain ⟨p, q, hA0, hV, rfl, hfz, hnd⟩ := hW
  have hA : DataW.TrodAll enc Try.prog W 0 (fun _ => true) true Try.f3.params.toList args.toList ds p := hA0
  rw [Try.params3] at hA hval
  obtain ⟨v0, vs0, d0, ds0, p0, q0, hargs, rfl, rfl, h0, r0⟩ := trodAll_cons hA
  obtain ⟨v1, vs1, d1, ds1, p1, q1, rfl, rfl, rfl, h1, r1⟩ := trodAll_cons r0
  obtain ⟨v2, vs2, d2, ds2, p2, q2, rfl, rfl, rfl, h2, r2⟩ := trodAll_cons r1
  obtain ⟨v3, vs3, d3, ds3, p3, q3, rfl, rfl, rfl, h3, r3⟩ := trodAll_cons r2
  obtain ⟨v4, vs4, d4, ds4, p4, q4, rfl, rfl, rfl, h4, r4⟩ := trodAll_cons r3
  obtain ⟨rfl, rfl, rfl⟩ := trodAll_nil r4
  obtain rfl : args = #[v0, v1, v2, v3, v4] := by cases args; simp_all
  obtain ⟨rfl, rfl⟩ := trodVars_none hV
  obtain ⟨ls, w0, hl, hz⟩ := Label.open_pairs_upto Try.underlying22 (f0 := (Try.prog.fieldsOf 48)[0]!) (f1 := (Try.prog.fieldsOf 48)[1]!) (by kernel_rfl) (by kernel_rfl) (by kernel_rfl) (by kernel_rfl) (by kernel_rfl) (by kernel_rfl) (by kernel_rfl) (by kernel_rfl) (hval 0 22 v0 rfl rfl) h0
  obtain ⟨a1, rfl, rfl, rfl, _⟩ := Go.ChangeMaps.open_string Try.underlying9 (hval 1 9 v1 rfl rfl) h1
  obtain ⟨a2, rfl, rfl, rfl, _⟩ := Go.ChangeMaps.open_string Try.underlying9 (hval 2 9 v2 rfl rfl) h2
  obtain ⟨a3, rfl, rfl, rfl, _⟩ := open_int Try.underlying3 (hval 3 3 v3 rfl rfl) h3
  obtain ⟨a4, rfl, rfl, rfl, _⟩ := Go.ChangeMaps.open_string Try.underlying9 (hval 4 9 v4 rfl rfl) h4
  have hB : Rows.uptoBulkAll ([d0, .lit (.string a1.data.toList), .lit (.string a2.data.toList), .lit (.int .i64 a3), .lit (.string a4.data.toList)] ++ []) ≤ 1048576 := of_decide_eq_true hk
  simp only [List.append_nil, Rows.uptoBulkAll, Rows.uptoBulk] at hB
  have z2 : a2.data.toList.length = a2.size := Array.length_toList
  have z4 : a4.data.toList.length = a4.size := Array.length_toList
  refine (walk v0 ls (by omega) (fun x hx => by have := hz x hx; omega) a1 a2 (by omega) a3 a4 (by omega) W w0).mono fun e W' ⟨he, hb⟩ => ?_
  subst he
  exact ⟨_, rfl, Ends.law_end Ends.laidOut (by rw [Try.params3]; decide +kernel) rfl (by kernel_rfl) Try.underlying4 hW' rfl hb⟩

set_option maxRecDepth 100000 in
theorem lifted (os : Os) (started : os.Started) (H : Type) (enc : TypeId × Value → H) (F : Stop.Interp) :
    ReturnsInHanded {} Try.checked os 3 .any ((Rows.OpenSpec.upto Rows.labelTellsSpec).pre6 enc Try.prog Try.f3 Rows.labelTellsUptoRow.domain false) (((Rows.OpenSpec.upto Rows.labelTellsSpec).at F).post enc Try.prog Try.f3 false true false false) := by
  refine returnsInHanded_of_cond (C := Try.checked) (s := Rows.OpenSpec.upto Rows.labelTellsSpec) (k := Rows.uptoSmall) rfl Ends.own started (by kernel_rfl) Try.func3
    (OpenSpec.witness (enc := enc) (C := Try.checked) (s := Rows.OpenSpec.upto Rows.labelTellsSpec) (k := Rows.uptoSmall) rfl false ⟨#[], #[.slice none 0 0, .string ⟨#[]⟩, .string ⟨#[]⟩, .int .i64 0, .string ⟨#[]⟩], []⟩ 8 (by kernel_rfl) (by kernel_rfl) (by kernel_rfl)
      (x := ([.nil, .lit (.string []), .lit (.string []), .lit (.int .i64 0), .lit (.string [])], [], [])) (by kernel_rfl) rfl (by kernel_rfl)) ?_
  intro W base args ds gs before hval hW _ hk _
  exact contract H enc W base args ds gs before hval hW hk

/-- The statement. -/
theorem proved : Rows.LabelTellsUptoSaid :=
  OpenClaim.holds_of_cond 3 Try.f3 rfl rfl rfl rfl rfl rfl rfl ⟨rfl, rfl, rfl, rfl, rfl⟩ rfl rfl rfl rfl rfl (by kernel_rfl) Try.func3 (by kernel_rfl)
    (of_decide_eq_true (by kernel_rfl)) (by unfold Func.isWrapper; first | (rw [if_pos (by decide +kernel)]; kernel_rfl) | (rw [if_neg (by decide +kernel)]; exact ⟨rfl, rfl⟩))
    (fun os started H enc _ F => lifted os started H enc F)
end Go.Proofs.Ytpkaejacnblplaa.labelTells
