/- Proved: demesnelaw13.PackRoom answers true for every slots, selector, demand and number: room is the sum of what each slot holds; and leaves its arguments as they were. No condition. -/
import Derived.Test.YtbefnophkaepmaaKTrue
import Derived.Test.YtbefnophkaepmaaKLawRoom
import Derived.Test.YtbefnophkaepmaaKArgs
import Derived.Test.YtbefnophkaepmaaEnd
namespace Go.Proofs.Ytbefnophkaepmaa.packRoom
open Go.ChangeShapes Go.WideShapes Go.ChangeAt Go.RowKit
open Go.Proofs.Ytbefnophkaepmaa.Pack Go.Proofs.Ytbefnophkaepmaa.Vec

theorem walk (v0 : Value) (ls : List Slot) (h0 : ls.length * 72 ≤ 140737488351232) (v1 : Value) (ts : List Sel.Tm) (h1 : ts.length * 48 ≤ 140737488351232) (h2 : ∀ t ∈ ts, t.1.size ≤ 140737488351232 ∧ t.2.2.length * 16 ≤ 140737488351232 ∧ ∀ x ∈ t.2.2, x.size ≤ 140737488351232) (d : Nat → Int) (hd : InRange d) (n : Int) (ln : 0 ≤ n) (un : n ≤ 255) (W : World) (w0 : SlRow W v0 ls) (w1 : Sel.TRow W v1 ts) :
    Calls Try.prog 8 #[v0, v1, .agg #[.int .u64 (d 0), .int .u64 (d 1), .int .u64 (d 2), .int .u64 (d 3)], .int .u8 n] W fun e W' => e = .returned (.bool true) ∧ Below W.heap.size W W' := by
  exact packRoom_any says v0 v1 ls ts d n W w0 w1 (fair_terms h1 h2) hd (by omega) ⟨ln, un⟩

set_option maxRecDepth 100000 in
theorem lifted (os : Os) (started : os.Started) (H : Type) (enc : TypeId × Value → H) :
    ReturnsInHanded {} Try.checked os 8 .any (Rows.packRoomSpec.pre6 enc Try.prog Try.f8 Rows.packRoomRow.domain false) (Rows.packRoomSpec.post enc Try.prog Try.f8 false true false false) := by
  refine returnsInHanded_of_change_sized (C := Try.checked) Ends.own started (by kernel_rfl) Try.func8
    (ChangeSpec.witness6 (enc := enc) (C := Try.checked) false ⟨#[], #[.slice none 0 0, .slice none 0 0, .agg #[.int .u64 0, .int .u64 0, .int .u64 0, .int .u64 0], .int .u8 0], []⟩ 8 (by kernel_rfl) (by kernel_rfl) (by kernel_rfl) (by kernel_rfl)) ?_
  intro W base args ds gs before hval0 hW _ hsz0 _
  have hval : ∀ (j : Nat) t v, Try.f8.params[j]? = some t → args[j]? = some v → Value.okWide Try.prog W .any base t v := hval0
  have hsz : (DataW.weightsEach Try.prog (Try.f8.params.toList ++ Rows.packRoomSpec.plain.varTypes Try.prog) (ds ++ gs)).all (· ≤ reachBytes) = true := hsz0
  have hW' := hW
  obtain ⟨p, q, hA0, hV, rfl, hfz, hnd⟩ := hW
  have hA : DataW.TrodAll enc Try.prog W 0 (fun _ => true) true Try.f8.params.toList args.toList ds p := hA0
  rw [Try.params8] at hA hval hsz
  obtain ⟨v0, vs0, d0, ds0, p0, q0, hargs, rfl, rfl, h0, r0⟩ := trodAll_cons hA
  obtain ⟨v1, vs1, d1, ds1, p1, q1, rfl, rfl, rfl, h1, r1⟩ := trodAll_cons r0
  obtain ⟨v2, vs2, d2, ds2, p2, q2, rfl, rfl, rfl, h2, r2⟩ := trodAll_cons r1
  obtain ⟨v3, vs3, d3, ds3, p3, q3, rfl, rfl, rfl, h3, r3⟩ := trodAll_cons r2
  obtain ⟨rfl, rfl, rfl⟩ := trodAll_nil r3
  obtain rfl : args = #[v0, v1, v2, v3] := by cases args; simp_all
  obtain ⟨rfl, rfl⟩ := trodVars_none hV
  have q0 : ∀ n ∈ d0.weights Try.prog 22, n ≤ 140737488351232 := fun n hn => of_decide_eq_true (List.all_eq_true.1 hsz n (DataW.weights_mem_each (j := 0) rfl rfl n hn))
  obtain ⟨a0, w0, b0⟩ := Pack.open_slots (hval 0 22 v0 rfl rfl) h0 q0
  obtain ⟨a1, w1, g1⟩ := Sel.open_terms Try.underlying23 (f0 := (Try.prog.fieldsOf 59)[0]!) (f1 := (Try.prog.fieldsOf 59)[1]!) (f2 := (Try.prog.fieldsOf 59)[2]!) (ts := 28) (es := 9) (by kernel_rfl) (by kernel_rfl) (by kernel_rfl) (by kernel_rfl) (by kernel_rfl) (by kernel_rfl) (by kernel_rfl) (by kernel_rfl) (by kernel_rfl) (by kernel_rfl) (by kernel_rfl) (by kernel_rfl) (by kernel_rfl) (by kernel_rfl) (hval 1 23 v1 rfl rfl) h1
  have q1 : ∀ n ∈ d1.weights Try.prog 23, n ≤ 140737488351232 := fun n hn => of_decide_eq_true (List.all_eq_true.1 hsz n (DataW.weights_mem_each (j := 1) rfl rfl n hn))
  have b1 := g1.reach (P := Try.prog) (f0 := (Try.prog.fieldsOf 59)[0]!) (f1 := (Try.prog.fieldsOf 59)[1]!) (f2 := (Try.prog.fieldsOf 59)[2]!) (ts := 28) (es := 9) Try.underlying23 (by kernel_rfl) (by kernel_rfl) (by kernel_rfl) (by kernel_rfl) (by kernel_rfl) q1
  obtain ⟨a2, rfl, k2⟩ := Pack.open_vec4 (hval 2 26 v2 rfl rfl) h2
  obtain ⟨a3, rfl, rfl, rfl, w3⟩ := open_int Try.underlying5 (hval 3 5 v3 rfl rfl) h3
  have b3 := bounds_u8 w3
  refine (walk v0 a0 b0 v1 a1 b1.1 b1.2 a2 k2 a3 b3.1 b3.2 W w0 w1).mono fun e W' ⟨he, hb⟩ => ?_
  subst he
  exact ⟨_, rfl, Ends.law_end Ends.laidOut (by rw [Try.params8]; decide +kernel) rfl (by kernel_rfl) Try.underlying4 hW' rfl hb⟩

/-- The statement. -/
theorem proved : Rows.PackRoomSaid :=
  OpenClaim.holds_of_wide 8 Try.f8 rfl rfl rfl rfl rfl rfl rfl ⟨rfl, rfl, rfl, rfl, rfl⟩ rfl rfl rfl rfl rfl (by kernel_rfl) Try.func8 (by kernel_rfl)
    (of_decide_eq_true (by kernel_rfl)) (by unfold Func.isWrapper; first | (rw [if_pos (by decide +kernel)]; kernel_rfl) | (rw [if_neg (by decide +kernel)]; exact ⟨rfl, rfl⟩))
    (fun os started H enc _ => lifted os started H enc)
end Go.Proofs.Ytbefnophkaepmaa.packRoom
