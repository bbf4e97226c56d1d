/- What label.inOrder and label.Right answer of any labels: right are at most eight pairs of names whose keys rise; of memory that was there nothing turns. -/
import Derived.Test.YtpkaejacnblplaaLLess
import Derived.Laws.StructEq
namespace Go.Proofs.Ytpkaejacnblplaa.Label
open Go.RowKit Go.Proofs.Ytpkaejacnblplaa.Word Go.Sort

/-- Are two pairs the same? -/
def eqP (x y : Pr) : Bool := x.1.toList == y.1.toList && x.2.toList == y.2.toList
theorem equal_pair (d : Nat) (x y : Pr) (w : World) :
    (Op.equalIn (d + 2) 48 (.agg #[.string x.1, .string x.2]) (.agg #[.string y.1, .string y.2])).run Try.prog w = .ok (eqP x y) w := by
  have hu : Try.prog.underlying 48 = some (.struct (Try.prog.fieldsOf 48)) := by kernel_rfl
  have p0 : ∀ a b : ByteArray, (part 9 #[.string a, .string b] 0).run Try.prog w = .ok (.string a) w := fun _ _ => by kernel_rfl
  have p1 : ∀ a b : ByteArray, (part 9 #[.string a, .string b] 1).run Try.prog w = .ok (.string b) w := fun _ _ => by kernel_rfl
  have he : ∀ a b : ByteArray, (Op.equalIn (d + 1) 9 (.string a) (.string b)).run Try.prog w = .ok (a.toList == b.toList) w := fun a b => by simp [Op.equalIn, run_underlying Try.underlying9, beq_toListBytes]
  rw [run_equalIn_struct w (d + 1) _ _ _ hu (by kernel_rfl)]
  obtain ⟨fs, hfs⟩ : ∃ fs, fs = (Try.prog.fieldsOf 48).toList := ⟨_, rfl⟩
  have h2 : ∃ f g, fs = [f, g] ∧ f.name ≠ "_" ∧ g.name ≠ "_" ∧ f.type = 9 ∧ g.type = 9 ∧ f.offset = 0 ∧ g.offset = 1 := by
    rw [hfs]
    exact ⟨(Try.prog.fieldsOf 48)[0]!, (Try.prog.fieldsOf 48)[1]!, by kernel_rfl, by decide +kernel, by decide +kernel, by kernel_rfl, by kernel_rfl, by kernel_rfl, by kernel_rfl⟩
  rw [← hfs]
  clear hfs hu
  obtain ⟨f, g, rfl, n1, n2, t1, t2, o1, o2⟩ := h2
  unfold eqP
  obtain ⟨r1, e1⟩ : ∃ r, (x.1.toList == y.1.toList) = r := ⟨_, rfl⟩
  obtain ⟨r2, e2⟩ : ∃ r, (x.2.toList == y.2.toList) = r := ⟨_, rfl⟩
  simp only [Op.eqFields, if_pos n1, if_pos n2, t1, t2, o1, o2, Sem.run_bind, p0, he, Result.andThen_ok, e1, e2]
  cases r1 <;> simp only [Bool.not_false, Bool.not_true, if_true, if_false, Bool.false_eq_true, Sem.run_pure, Sem.run_bind, p1, he, e2, Result.andThen_ok, Bool.false_and, Bool.true_and]
  cases r2 <;> simp only [Bool.not_false, Bool.not_true, if_true, if_false, Bool.false_eq_true, Sem.run_pure]
theorem neq_at : NeqAt Try.prog 48 (fun x => .agg (enc x).toArray) eqP := by
  refine ⟨fun x y w => ?_, GuardAt.agg _ (by kernel_rfl)⟩
  show (binOp .neq _ (.agg #[.string x.1, .string x.2]) (.agg #[.string y.1, .string y.2])).run _ w = _
  simp only [binOp]
  simp [Op.equal, Op.maxDepth, equal_pair 9998 x y w]

theorem bang_of {ls : List Pr} {j : Nat} {x : Pr} (h : ls[j]? = some x) : ls[j]! = x := by rw [getElem!_def, h]
theorem cells_q {w : World} {g o : Nat} {ls : List Pr} (h : Cells w g o ls) : ∀ j, j < ls.length → ∀ i v, (enc ls[j]!)[i]? = some v → w.cell? ⟨g, o + j * 2 + i, none⟩ = some v := fun j hj i v hi => by
  have hx : ls[j]? = some ls[j] := List.getElem?_eq_getElem hj
  rw [bang_of hx] at hi
  obtain ⟨h0, h1⟩ := h j _ hx
  match i with
  | 0 => simp [enc] at hi; subst hi; exact h0
  | 1 => simp [enc] at hi; subst hi; exact h1
  | (n + 2) => simp [enc] at hi

theorem toList_inj {a b : ByteArray} (h : a.toList = b.toList) : a = b := by
  rw [Lib.toList_data, Lib.toList_data] at h
  cases a; cases b
  congr 1
  exact Array.toList_inj.1 h
theorem eqP_iff (x y : Pr) : eqP x y = true ↔ x = y := by
  unfold eqP
  rw [Bool.and_eq_true, beq_iff_eq, beq_iff_eq]
  constructor
  · rintro ⟨h1, h2⟩; exact Prod.ext (toList_inj h1) (toList_inj h2)
  · rintro rfl; exact ⟨rfl, rfl⟩
theorem allEq_iff : ∀ (xs ys : List Pr), Lib.allEq eqP xs ys = true ↔ xs = ys
  | [], [] => by simp [Lib.allEq]
  | x :: xs, [] => by simp [Lib.allEq]
  | [], y :: ys => by simp [Lib.allEq]
  | x :: xs, y :: ys => by rw [Lib.allEq, Bool.and_eq_true, eqP_iff, allEq_iff xs ys, List.cons.injEq]

theorem below_drewN {B : Nat} {a w : World} (h : Below B a w) : ∀ n, Below B a (w.drewN n)
  | 0 => h
  | n + 1 => (below_drewN h n).drew

set_option maxHeartbeats 1000000 in
set_option maxRecDepth 100000 in
theorem equal_lens (a a' : Option Addr) (n m c c' : Nat) (w : World) (h : n ≠ m) :
    Calls Try.prog 39 #[.slice a n c, .slice a' m c'] w fun e w' => e = .returned (.bool false) ∧ w' = w := by
  have hne : ((n : Int) != (m : Int)) = true := by simp; omega
  have hne' : ((n : Int) == (m : Int)) = false := by simp; omega
  go_enter Try.func39, Try.ntmps39
  go_wp2
  go_ret
  exact ⟨rfl, rfl⟩
set_option maxHeartbeats 1000000 in
set_option maxRecDepth 100000 in
theorem equal_none (a a' : Option Addr) (c c' : Nat) (w : World) :
    Calls Try.prog 39 #[.slice a 0 c, .slice a' 0 c'] w fun e w' => e = .returned (.bool true) ∧ w' = w := by
  go_enter Try.func39, Try.ntmps39
  go_wp2
  go_loopw [13] (fun i wr => i = .int .i64 0 ∧ wr = w) (fun _ _ => 0)
  case atStart => exact ⟨rfl, rfl⟩
  case round =>
    obtain ⟨rfl, rfl⟩ := hrel
    go_wp2
    go_ret
    exact ⟨rfl, rfl⟩
theorem equal_rows (v v' : Value) (ls ls' : List Pr) (w : World) (hv : Row w v ls) (hv' : Row w v' ls') (hl : ls.length ≤ 4611686018427387904) (h : ls'.length = ls.length) :
    Calls Try.prog 39 #[v, v'] w fun e w' => (∃ b : Bool, e = .returned (.bool b) ∧ (b = true ↔ ls' = ls)) ∧ Below w.heap.size w w' := by
  rcases hv with ⟨rfl, a, cap, rfl, hm⟩ | ⟨hne, g, o, cap, rfl, hg, hcap, hm, hcell⟩
  · obtain rfl : ls' = [] := List.eq_nil_of_length_eq_zero h
    rcases hv' with ⟨_, a', cap', rfl, _⟩ | ⟨hne', _⟩
    · refine (equal_none a a' cap cap' w).mono ?_
      rintro e w' ⟨rfl, rfl⟩
      exact ⟨⟨true, rfl, by simp⟩, Below.refl _ _⟩
    · exact absurd rfl hne'
  · rcases hv' with ⟨rfl, _⟩ | ⟨hne', g', o', cap', rfl, hg', hcap', hm', hcell'⟩
    · exact absurd (List.eq_nil_of_length_eq_zero h.symm) hne
    · refine (AnyQ.slices_Equal Laid.laysSlQ8_f39 2 aggP sizeP enc enc_len eqP neq_at g o ls.length cap g' o' ls'.length cap' ls ls' w (Nat.le_refl _) (Nat.le_refl _) (by omega) (by omega) (cells_q hcell) (cells_q hcell')).mono ?_
      rintro e w' ⟨rfl, q, rfl⟩
      refine ⟨⟨_, rfl, ?_⟩, below_drewN (Below.refl _ _) q⟩
      rw [List.take_length, List.take_length, allEq_iff]
      exact eq_comm

/-- What inOrder tells: the same, if the keys rise; else something else. -/
def Ordered (ls : List Pr) (w : World) (e : Ending) (w' : World) : Prop :=
  ∃ v', e = .returned v' ∧ Below w.heap.size w w' ∧ ((∃ ls', ls'.length = ls.length ∧ (ls' = ls ↔ Rises ls) ∧ Row w' v' ls') ∨ (¬ Rises ls ∧ ∃ a k cap, v' = .slice a k cap ∧ k < ls.length))

set_option maxHeartbeats 1000000 in
set_option maxRecDepth 100000 in
theorem inOrder_any (v : Value) (ls : List Pr) (w : World) (hv : Row w v ls) (hl : ls.length ≤ 8) :
    Calls Try.prog 40 #[v] w (Ordered ls w) := by
  have HC := Lib.hid (clone_any v ls w hv hl)
  clear hv
  go_enter Try.func40, Try.ntmps40
  go_wp2_with fail
  refine HC.out.mono ?_
  rintro e w1 ⟨v1, rfl, hb1, hm1⟩
  have HS := Lib.hid (sort_any w.heap.size v1 ls w1 hm1 hl)
  clear hm1
  go_wp2_with fail
  refine HS.out.mono ?_
  rintro e w2 ⟨rfl, ls', hlen, hsame, hris, hm2, hb2⟩
  have hb := hb1.trans hb2
  have HR := Lib.hid (show ls' = ls ∨ ls' ≠ ls from Classical.em _)
  have HSame := Lib.hid hsame
  have HRis := Lib.hid hris
  have HM2 := Lib.hid hm2
  have HL := Lib.hid hlen
  clear hb1 hb2 hsame hris hm2 hlen
  by_cases hd : Dup ls'
  · have HK : Hid (∃ g cap, v1 = .slice (some ⟨g, 0, none⟩) ls'.length cap ∧ Calls Try.prog 61 #[v1, .func (.func 62) #[] #[]] w2 fun e w' => (∃ k : Nat, e = .returned (.slice (some ⟨g, 0, none⟩) k cap) ∧ k < ls'.length) ∧ Below w.heap.size w2 w') := by
      rcases HM2.out with ⟨rfl, _⟩ | ⟨_, g, cap, rfl, hB, hg, hcap, _, hH⟩
      · obtain ⟨j, x, y, hx, _⟩ := hd
        simp at hx
      · exact ⟨g, cap, rfl, compact_less w.heap.size g cap ls' w2 hB hb.size hg hcap hH (by have := HL.out; omega) hd⟩
    have HD := Lib.hid hd
    clear hd
    obtain ⟨g, cap, rfl, hk⟩ := HK.out
    have HK2 := Lib.hid hk
    clear hk HK
    go_wp2_with fail
    refine HK2.out.mono ?_
    rintro e w3 ⟨⟨k, rfl, hk⟩, hb3⟩
    go_wp2
    go_ret
    refine ⟨_, rfl, hb.trans hb3, .inr ⟨fun hr => rises_nodup hr ?_, _, _, _, rfl, by have := HL.out; omega⟩⟩
    have := HSame.out hr
    rw [← this]
    exact HD.out
  · have HK := Lib.hid (compact_same w.heap.size v1 ls' w2 HM2.out (by have := HL.out; omega) hd)
    have HD := Lib.hid hd
    clear hd
    go_wp2_with fail
    refine HK.out.mono ?_
    rintro e w3 ⟨rfl, hb3⟩
    go_wp2
    go_ret
    refine ⟨_, rfl, hb.trans (hb3.mono hb.size), .inl ⟨ls', HL.out, ⟨fun h => ?_, HSame.out⟩, HM2.out.row.below hb3⟩⟩
    rw [← h]
    exact HRis.out HD.out
end Go.Proofs.Ytpkaejacnblplaa.Label
