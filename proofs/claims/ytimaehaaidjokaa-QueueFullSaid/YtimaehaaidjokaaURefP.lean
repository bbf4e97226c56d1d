/- What the document's own Take and Push answer of any queue; of memory that was there nothing turns. -/
import Derived.Test.YtimaehaaidjokaaURefA
import Derived.Deep.RegionHeld
import Derived.Lib.AppendZeros
import Derived.Deep.DeepCutAuto
namespace Go.Proofs.Ytimaehaaidjokaa.Queue
open Go.RowKit

/-- A piece of a slice, in a region that draws. -/
theorem held_slice {P : Program} {w : World} {o : Oper} {a : Act} (t : TypeId) (x : Operand) (lo hi : Option Operand) (ho : o.op = .slice t x lo hi none) (e : TypeId) (ht : P.underlying t = some (.slice e)) {u v : Value} {vl vh : Option Value} (hx : a.eval x = u) (hl : lo.map a.eval = vl) (hh : hi.map a.eval = vh)
    (hr : (Instr.slice t u vl vh none).run P w = .ok v w) : (execOp a.eval o).run P w = .ok (.value v) w := by
  have hs : (Instr.sliceAt t u vl vh none).run P w = .ok v w := by
    rw [← hr]; simp [Instr.sliceAt, run_underlying ht]
  unfold execOp
  simp only [ho, Sem.run_bind, Sem.run_pure, Result.andThen_ok, hx, hl, hh, Option.map_none, hs]
/-- An append whose run is known, in a region that draws. -/
theorem step_append {P : Program} (w : World) {ops : Array Oper} {o : Oper} {a : Act} {K : Act → World → Prop} {Q : Exit → Act → World → Prop} {E : Prop} (hgd : o.guard = none) (s x : Operand) (t tn : TypeId)
    (ho : o.op = .call { callee := .builtin .append, args := #[s, x], argTypes := #[t, tn] }) (vs vx : Value) (hs : a.eval s = vs) (hx : a.eval x = vx)
    (v' : Value) (w' : World) (hr : (Builtin.append_ #[t, tn] o.type #[vs, vx]).run P w = .ok v' w') (h : K (a.put o.dst v') w') : if Region.wanted o (yielded ops a.tmps) = true then Oper.wp P o a w K Q else E := by
  have hw : Region.wanted o (yielded ops a.tmps) = true := by simp [Region.wanted, hgd]
  rw [if_pos hw]
  exact Lib.wp_append_run w s x t tn ho vs vx hs hx v' w' hr h
theorem run_sizeE {P : Program} {T : TypeId} (hT : (P.info? T).map (fun i => (i.zero, i.size, i.bytes)) = some (some zeroE, 2, 16)) (w : World) : (sizeOf T).run P w = .ok 2 w := by
  obtain ⟨i0, hi, hz0, hz1, hz2⟩ := info_parts hT
  simp [sizeOf, typeInfo, hi, hz1]
/-- The first so many. -/
theorem take_row {P : Program} {T ts : TypeId} (ht : P.underlying ts = some (.slice T)) (hT : (P.info? T).map (fun i => (i.zero, i.size, i.bytes)) = some (some zeroE, 2, 16)) {w : World} {a : Option Addr} {n cap : Nat} {ls : List E} (h : Row w (.slice a n cap) ls) (k : Nat) (hk : k ≤ ls.length) :
    ∃ v, (∀ w', (Instr.slice ts (.slice a n cap) none (some (.int .i64 (k : Int))) none).run P w' = .ok v w') ∧ Row w v (ls.take k) := by
  obtain ⟨a', cap', e, hc, hm⟩ := h.slice
  injection e with e1 e2 e3
  subst e1; subst e2; subst e3
  have hel : P.elem ts = T := by simp [Program.elem, ht]
  refine ⟨sliced a 0 k cap 2, fun w' => ?_, ?_⟩
  · rw [run_slice_h w' ts a _ cap (by rw [hel]; exact ht) .i64 (k : Int) (by omega) (by omega), hel, run_sizeE hT w']
    rfl
  · unfold sliced
    by_cases hz : ls.take k = []
    · have : k = 0 ∨ ls = [] := by simpa using hz
      have hk0 : k = 0 := by rcases this with h | h; exact h; subst h; simpa using hk
      subst hk0
      exact .inl ⟨hz, _, _, rfl, by simpa using hm⟩
    · have hk0 : k ≠ 0 := fun e => hz (by rw [e]; rfl)
      obtain ⟨g, o, rfl, hg, hcell⟩ := h.cells (k := 0) (by omega)
      refine .inr ⟨hz, g, o, cap, ?_, hg, by rw [List.length_take]; omega, hm, fun j x hj => ?_⟩
      · rw [if_neg (by omega)]
        simp [Addr.add, Nat.min_eq_left hk]
      · rw [List.getElem?_take] at hj
        split at hj
        · exact hcell j x hj
        · cases hj
/-- What stands from there on. -/
theorem drop_row {P : Program} {T ts : TypeId} (ht : P.underlying ts = some (.slice T)) (hT : (P.info? T).map (fun i => (i.zero, i.size, i.bytes)) = some (some zeroE, 2, 16)) {w : World} {a : Option Addr} {n cap : Nat} {ls : List E} (h : Row w (.slice a n cap) ls) (k : Nat) (hk : k ≤ ls.length) :
    ∃ v, (∀ w', (Instr.slice ts (.slice a n cap) (some (.int .i64 (k : Int))) none none).run P w' = .ok v w') ∧ Row w v (ls.drop k) := by
  obtain ⟨a', cap', e, hc, hm⟩ := h.slice
  injection e with e1 e2 e3
  subst e1; subst e2; subst e3
  have hel : P.elem ts = T := by simp [Program.elem, ht]
  refine ⟨sliced a k ls.length cap 2, fun w' => ?_, ?_⟩
  · rw [run_slice_l w' ts a _ cap (by rw [hel]; exact ht) .i64 (k : Int) (by omega) (by omega), hel, run_sizeE hT w']
    rfl
  · unfold sliced
    by_cases hz : k = ls.length
    · subst hz
      exact .inl ⟨by simp, _, _, by rw [Nat.sub_self], by omega⟩
    · obtain ⟨g, o, rfl, hg, hcell⟩ := h.cells (k := 0) (by omega)
      refine .inr ⟨by simp; omega, g, o + k * 2, cap - k, ?_, hg, by rw [List.length_drop]; omega, by omega, fun j x hj => ?_⟩
      · rw [if_neg (by omega), List.length_drop]
        simp [Addr.add]
      · rw [List.getElem?_drop] at hj
        have := hcell (k + j) x hj
        rw [show o + (k + j) * 2 = o + k * 2 + j * 2 by omega] at this
        exact this

theorem remL_at {ls : List E} {i k : Nat} (h : placeL ls i = (k : Int)) : has ls i = true ∧ k < ls.length ∧ remL i ls = ls.take k ++ ls.drop (k + 1) := by
  have hh : has ls i = true := by
    cases hc : has ls i
    · rw [place_none hc] at h; omega
    · rfl
  unfold placeL at h
  rw [if_pos hh] at h
  have h : placeN ls i = k := by omega
  subst h
  refine ⟨hh, ?_, ?_⟩
  · exact List.findIdx_lt_length_of_exists (by obtain ⟨x, h1, h2⟩ := has_iff.1 hh; exact ⟨x, h1, by simpa using h2⟩)
  · clear hh
    unfold placeN
    induction ls with
    | nil => rfl
    | cons x q ih =>
      unfold remL
      rw [List.findIdx_cons]
      cases hc : (x.1 == i)
      · simp [ih]
      · simp

set_option maxHeartbeats 400000 in
set_option maxRecDepth 100000 in
theorem refTake_rows (v : Value) (ls : List E) (i : Nat) (w : World) (hv : Row w v ls) (hl : ls.length ≤ 8796093022208) :
    Calls Try.prog 14 #[v, .int .u64 (i : Int)] w fun e w' => (∃ u, e = .returned (.tuple #[u, .bool (takeL ls i).2]) ∧ Row w' u (takeL ls i).1) ∧ Below w.heap.size w w' := by
  obtain ⟨ad, cap, rfl, _, _⟩ := hv.slice
  have HP := Lib.hid (refPlace_rows _ ls i w hv)
  have HV := Lib.hid hv
  clear hv
  by_cases hh : has ls i = true
  · obtain ⟨k, hk⟩ : ∃ k : Nat, placeL ls i = (k : Int) := ⟨placeN ls i, by unfold placeL; rw [if_pos hh]⟩
    obtain ⟨_, hlt, hrem⟩ := remL_at hk
    have HE : Hid (takeL ls i = (ls.take k ++ ls.drop (k + 1), true)) := Lib.hid (by unfold takeL; rw [if_pos hh, hrem])
    have hk0 : ¬ (k : Int) < 0 := by omega
    rw [hk] at HP
    clear hh hk hrem
    go_enter Try.func14, Try.ntmps14
    go_wp2_with fail
    (with_reducible refine HP.out.mono ?_)
    rintro _ wq ⟨rfl, hbq⟩
    have HR := Lib.hid (HV.out.below hbq)
    clear HP
    go_wp2_with fail
    have hd0 : Below wq.heap.size wq wq.drew := (Below.refl _ _).drew
    obtain ⟨v1, hs1, hr1⟩ := take_row Try.underlying27 infoR (HR.out.below hd0) k (by omega)
    obtain ⟨v2, hs2, hr2⟩ := drop_row Try.underlying27 infoR (HR.out.below hd0) (k + 1) (by omega)
    obtain ⟨v3, w3, ha3, hm3, hb3⟩ := append_row Try.underlying27 infoR (Mine.nil 34 wq.drew wq.heap.size) hr1 (by simp; omega) hd0.size 27
    have hd3 := hd0.trans hb3
    obtain ⟨v4, w4, ha4, hm4, hb4⟩ := append_row Try.underlying27 infoR hm3 (hr2.below hb3) (by simp; omega) hd3.size 27
    have hd4 := hbq.trans ((hd3.trans hb4).mono hbq.size)
    have HM := Lib.hid (hm4.row (by
      intro c hc
      simp only [List.nil_append] at hc
      rcases List.mem_append.1 hc with hc | hc
      · exact HR.out.fair c (List.mem_of_mem_take hc)
      · exact HR.out.fair c (List.mem_of_mem_drop hc)))
    have hk1 : ((k + 1 : Nat) : Int) = (k : Int) + 1 := rfl
    obtain ⟨m, hm⟩ : ∃ m : Int, (k : Int) + 1 = m := ⟨_, rfl⟩
    simp only [hk1, hm] at hs2
    simp only [List.nil_append] at HM
    have hwr : IntKind.i64.wrap ((k : Int) + 1) = m := by rw [IntKind.wrap_i64]; omega
    clear hm3 hm4 hr1 hr2 hk1 hm
    refine wp_region_held_drew (S := fun _ => True) (by kernel_rfl) trivial (fun hHeld => ?_)
    (refine wpAnyH_take (i := 0) (v := ?_) rfl (by kernel_rfl) (by kernel_rfl) (by kernel_rfl) (fun _ _ _ h => h) (Or.inl ⟨by rfl, ?_⟩) hHeld ?_; rotate_left; focus (intro w hSw; (try dsimp only at hSw); go_simp; try with_reducible rfl))
    (refine wpAnyH_take (i := 1) (v := ?_) rfl (by kernel_rfl) (by kernel_rfl) (by kernel_rfl) (fun _ _ _ h => h) (Or.inl ⟨by rfl, ?_⟩) hHeld ?_; rotate_left; focus (intro w hSw; (try dsimp only at hSw); go_simp; try with_reducible rfl))
    (refine wpAnyH_take (i := 2) (v := v1) rfl (by kernel_rfl) (by kernel_rfl) (by kernel_rfl) (fun _ _ _ h => h) (Or.inl ⟨by rfl, ?_⟩) hHeld ?_; focus (intro w hSw; (try dsimp only at hSw); exact held_slice 27 (.tmp 13) none (some (.tmp 14)) rfl 34 Try.underlying27 rfl rfl rfl (hs1 _)))
    (refine wpAnyH_take (i := 4) (v := ?_) rfl (by kernel_rfl) (by kernel_rfl) (by kernel_rfl) (fun _ _ _ h => h) (Or.inl ⟨by rfl, ?_⟩) hHeld ?_; rotate_left; focus (intro w hSw; (try dsimp only at hSw); go_simp; try with_reducible rfl))
    (refine wpAnyH_take (i := 5) (v := ?_) rfl (by kernel_rfl) (by kernel_rfl) (by kernel_rfl) (fun _ _ _ h => h) (Or.inl ⟨by rfl, ?_⟩) hHeld ?_; rotate_left; focus (intro w hSw; (try dsimp only at hSw); go_simp; try with_reducible rfl))
    (refine wpAnyH_take (i := 6) (v := ?_) rfl (by kernel_rfl) (by kernel_rfl) (by kernel_rfl) (fun _ _ _ h => h) (Or.inl ⟨by rfl, ?_⟩) hHeld ?_; rotate_left; focus (intro w hSw; (try dsimp only at hSw); go_simp; try with_reducible rfl))
    (refine wpAnyH_take (i := 7) (v := v2) rfl (by kernel_rfl) (by kernel_rfl) (by kernel_rfl) (fun _ _ _ h => h) (Or.inl ⟨by rfl, ?_⟩) hHeld ?_; focus (intro w hSw; (try dsimp only at hSw); exact held_slice 27 (.tmp 17) (some (.tmp 19)) none (by kernel_rfl) 34 Try.underlying27 (u := .slice ad ls.length cap) (vl := some (.int .i64 m)) (vh := none) (by kernel_rfl) (by kernel_rfl) (by kernel_rfl) (hs2 _)))
    (refine wpAnyH_ready (rs := [3]) (by kernel_rfl) (by simp) ?_; refine AllReadyH.cons rfl (fun K hK => ?_) AllReadyH.nil; refine step_append _ (by kernel_rfl) (.const (.slice none 0 0)) (.tmp 15) 27 27 (by kernel_rfl) (.slice none 0 0) v1 (by kernel_rfl) (by kernel_rfl) v3 w3 ha3 ?_; refine hK.out _ _ trivial (fun hHeld => ?_); clear hK K)
    (refine wpAnyH_ready (rs := [8]) (by kernel_rfl) (by simp) ?_; refine AllReadyH.cons rfl (fun K hK => ?_) AllReadyH.nil; refine step_append _ (by kernel_rfl) (.tmp 16) (.tmp 20) 27 27 (by kernel_rfl) v3 v2 (by kernel_rfl) (by kernel_rfl) v4 w4 ha4 ?_; refine hK.out _ _ trivial (fun hHeld => ?_); clear hK K)
    (refine wpAnyH_take (i := 9) (v := ?_) rfl (by kernel_rfl) (by kernel_rfl) (by kernel_rfl) (fun _ _ _ h => h) (Or.inl ⟨by rfl, ?_⟩) hHeld ?_; rotate_left; focus (intro w hSw; (try dsimp only at hSw); go_simp; try with_reducible rfl))
    (refine wpAnyH_take (i := 10) (v := ?_) rfl (by kernel_rfl) (by kernel_rfl) (by kernel_rfl) (fun _ _ _ h => h) (Or.inl ⟨by rfl, ?_⟩) hHeld ?_; rotate_left; focus (intro w hSw; (try dsimp only at hSw); go_simp; try with_reducible rfl))
    refine wpAnyH_done (by kernel_rfl) ?_ _
    simp only [Act.put, List.getElem_toArray, List.getElem_cons_succ, List.getElem_cons_zero, List.setIfInBounds_toArray, List.set_cons_succ, List.set_cons_zero]
    go_wp2
    go_ret2
    rw [HE.out]
    exact ⟨⟨_, rfl, HM.out⟩, hd4⟩
  · have hh : has ls i = false := by simpa using hh
    have HE : Hid (takeL ls i = (ls, false)) := Lib.hid (by unfold takeL; rw [hh]; rfl)
    rw [place_none hh] at HP
    clear hh
    go_enter Try.func14, Try.ntmps14
    go_wp2_with fail
    (with_reducible refine HP.out.mono ?_)
    rintro _ wq ⟨rfl, hbq⟩
    have HR := Lib.hid (HV.out.below hbq)
    clear HP
    go_wp2
    go_ret2
    rw [HE.out]
    exact ⟨⟨_, rfl, HR.out⟩, hbq⟩

theorem new_row (T : TypeId) (w : World) (x : E) (hf : Fair x) : Row (w.alloc (.cells #[.int .u64 (x.1 : Int), .int .i64 x.2] T)) (.slice (some ⟨w.heap.size, 0, none⟩) 1 1) [x] := by
  refine .inr ⟨by simp, w.heap.size, 0, 1, rfl, by simp, Nat.le_refl _, by decide, fun j y hj => ?_⟩
  match j with
  | 0 =>
    simp at hj; subst hj
    have h := new_two T w (.int .u64 (x.1 : Int)) (.int .i64 x.2)
    have a := h 0 _ rfl
    have b := h 1 _ rfl
    rw [Addr.add_lit] at a b
    exact ⟨hf, a, b⟩
  | j + 1 => simp at hj
theorem box_cells (T : TypeId) (w w' : World) (x : E) (h : Below (w.alloc (.cells #[.int .u64 (x.1 : Int), .int .i64 x.2] T)).heap.size (w.alloc (.cells #[.int .u64 (x.1 : Int), .int .i64 x.2] T)) w') :
    w'.cell? ⟨w.heap.size, 0, none⟩ = some (.int .u64 (x.1 : Int)) ∧ w'.cell? ⟨w.heap.size, 1, none⟩ = some (.int .i64 x.2) := by
  have hn := new_two T w (.int .u64 (x.1 : Int)) (.int .i64 x.2)
  have a := hn 0 _ rfl
  have b := hn 1 _ rfl
  rw [Addr.add_lit] at a b
  exact ⟨(h.cell (p := ⟨w.heap.size, 0, none⟩) (by simp)).trans a, (h.cell (p := ⟨w.heap.size, 1, none⟩) (by simp)).trans b⟩
theorem fair_ins {q : List E} {e : E} (h : ∀ c ∈ q, Fair c) (he : Fair e) (k : Nat) : ∀ c ∈ q.take k ++ [e] ++ q.drop k, Fair c := by
  intro c hc
  rcases List.mem_append.1 hc with hc | hc
  · rcases List.mem_append.1 hc with hc | hc
    · exact h c (List.mem_of_mem_take hc)
    · rw [List.mem_singleton.1 hc]; exact he
  · exact h c (List.mem_of_mem_drop hc)

set_option maxHeartbeats 1000000 in
set_option maxRecDepth 100000 in
theorem refPush_rows (v : Value) (ls : List E) (e : E) (w : World) (hv : Row w v ls) (hf : Fair e) (hl : ls.length ≤ 8796093022208) :
    Calls Try.prog 12 #[v, val e] w fun x w' => (∃ u, x = .returned (.tuple #[u, .int .i64 ((pushL ls e).2 : Int)]) ∧ Row w' u (pushL ls e).1) ∧ Below w.heap.size w w' := by
  obtain ⟨ad, cap, rfl, _, _⟩ := hv.slice
  have HF := Lib.hid hf
  obtain ⟨i, p⟩ := e
  obtain ⟨W, hW⟩ : ∃ W, W = w.alloc (.cells #[.int .u64 (i : Int), .int .i64 p] 34) := ⟨_, rfl⟩
  have hwW : Below w.heap.size w W := by rw [hW]; exact (Below.refl _ _).alloc (Nat.le_refl _) _
  have HB := Lib.hid (fun w' (h : Below W.heap.size W w') => box_cells 34 w w' (i, p) (by rw [← hW]; exact h))
  have HV := Lib.hid (hv.below hwW)
  obtain ⟨c0, c1⟩ := HB.out W (Below.refl _ _)
  simp only at c0 c1
  have HP := Lib.hid (refPlace_rows _ ls i W HV.out)
  have HW := Lib.hid hW
  clear hv hf
  unfold val
  simp only
  have early : ∀ (n : Nat), pushL ls (i, p) = (ls, n) → ∀ w', Below W.heap.size W w' →
      (∃ u, Ending.returned (.tuple #[.slice ad ls.length cap, .int .i64 (n : Int)]) = .returned (.tuple #[u, .int .i64 ((pushL ls (i, p)).2 : Int)]) ∧ Row w' u (pushL ls (i, p)).1) ∧ Below w.heap.size w w' := by
    intro n hn w' h
    rw [hn]
    exact ⟨⟨_, rfl, HV.out.below h⟩, hwW.trans (h.mono hwW.size)⟩
  have HR := Lib.hid early
  clear early
  by_cases h1 : p < 0
  · have HE : Hid (pushL ls (i, p) = (ls, 1)) := Lib.hid (by unfold pushL; rw [if_pos (.inl h1)])
    go_enter Try.func12, Try.ntmps12
    go_upto_region 1 with fail
    rw [← HW.out]
    clear hW
    go_wp2
    go_ret2
    exact HR.out 1 HE.out _ (Below.refl _ _)
  by_cases h2 : 9 < p
  · have HE : Hid (pushL ls (i, p) = (ls, 1)) := Lib.hid (by unfold pushL; rw [if_pos (.inr h2)])
    go_enter Try.func12, Try.ntmps12
    go_upto_region 1 with fail
    rw [← HW.out]
    clear hW
    go_wp2
    go_ret2
    exact HR.out 1 HE.out _ (Below.refl _ _)
  have hp : ¬ (p < 0 ∨ 9 < p) := fun h => h.elim h1 h2
  by_cases h3 : has ls i = true
  · have HE : Hid (pushL ls (i, p) = (ls, 8)) := Lib.hid (by unfold pushL; rw [if_neg hp, if_pos h3])
    obtain ⟨k, hk⟩ : ∃ k : Nat, placeL ls i = (k : Int) := ⟨placeN ls i, by unfold placeL; rw [if_pos h3]⟩
    have hk0 : 0 ≤ (k : Int) := by omega
    rw [hk] at HP
    clear hp h3 hk
    go_enter Try.func12, Try.ntmps12
    go_upto_region 1 with fail
    rw [← HW.out]
    clear hW
    go_wp2_with fail
    (with_reducible refine HP.out.mono ?_)
    rintro _ wq ⟨rfl, hbq⟩
    go_wp2
    go_ret2
    exact HR.out 8 HE.out _ hbq
  have h3 : has ls i = false := by simpa using h3
  rw [place_none h3] at HP
  by_cases h4 : 32 ≤ ls.length
  · have HE : Hid (pushL ls (i, p) = (ls, 9)) := Lib.hid (by unfold pushL; rw [if_neg hp, h3, if_neg (by simp), if_pos h4])
    have h4z : (32 : Int) ≤ (ls.length : Int) := by omega
    clear hp h3
    go_enter Try.func12, Try.ntmps12
    go_upto_region 1 with fail
    rw [← HW.out]
    clear hW
    go_wp2_with fail
    (with_reducible refine HP.out.mono ?_)
    rintro _ wq ⟨rfl, hbq⟩
    go_wp2
    go_ret2
    exact HR.out 9 HE.out _ hbq
  have HE : Hid (pushL ls (i, p) = (insL (i, p) ls, 0)) := Lib.hid (by unfold pushL; rw [if_neg hp, h3, if_neg (by simp), if_neg h4])
  have h4z : ¬ (32 : Int) ≤ (ls.length : Int) := by omega
  clear hp h3 HR
  go_enter Try.func12, Try.ntmps12
  go_upto_region 1 with fail
  rw [← HW.out]
  clear hW
  go_wp2_with fail
  (with_reducible refine HP.out.mono ?_)
  rintro _ wq ⟨rfl, hbq⟩
  clear HP c0 c1
  go_wp2
  go_loopw [6] (fun t wr => ∃ k : Nat, k ≤ ls.length ∧ t = .int .i64 k ∧ (∀ j x, j < k → ls[j]? = some x → ahead (i, p) x = false) ∧ Below W.heap.size W wr) (fun t _ => ls.length - (intOf t).toNat)
  case atStart => exact ⟨0, Nat.zero_le _, rfl, fun j y hj => absurd hj (by omega), hbq⟩
  case round =>
    obtain ⟨k, hk, rfl, hn, hb⟩ := hrel
    have HN := Lib.hid hn
    clear hn
    have finish : (∀ x, ls[k]? = some x → ahead (i, p) x = true) → insL (i, p) ls = ls.take k ++ [(i, p)] ++ ls.drop k := fun h => by
      rw [insL_at (i, p) ls k hk HN.out h, List.append_assoc]; rfl
    have HFI := Lib.hid finish
    clear finish
    by_cases hlt : k < ls.length
    · have hltz : (k : Int) < (ls.length : Int) := by omega
      have hltb : decide ((k : Int) < (ls.length : Int)) = true := decide_eq_true hltz
      have hk0 : (0 : Int) ≤ (k : Int) := by omega
      obtain ⟨g, o, rfl, hg, hc⟩ := HV.out.cells hlt
      obtain ⟨x, hx⟩ : ∃ x, ls[k]? = some x := ⟨_, List.getElem?_eq_getElem hlt⟩
      obtain ⟨_, x0, x1⟩ := hc.below hg hb k x hx
      have c0 : ∀ q : Quiet.Behind wr, q.world.cell? ⟨g, o + k * 2, none⟩ = some (.int .u64 (x.1 : Int)) := Quiet.cell (by have := hb.size; show g < wr.heap.size; omega) x0
      have c1 : ∀ q : Quiet.Behind wr, q.world.cell? ⟨g, o + k * 2 + 1, none⟩ = some (.int .i64 x.2) := Quiet.cell (by have := hb.size; show g < wr.heap.size; omega) x1
      have c2 : ∀ q : Quiet.Behind wr, q.world.cell? ⟨w.heap.size, 0, none⟩ = some (.int .u64 (i : Int)) := fun q => (HB.out q.world (hb.trans (q.below.mono hb.size))).1
      have c3 : ∀ q : Quiet.Behind wr, q.world.cell? ⟨w.heap.size, 1, none⟩ = some (.int .i64 p) := fun q => (HB.out q.world (hb.trans (q.below.mono hb.size))).2
      have HX := Lib.hid hx
      obtain ⟨r, hr⟩ : ∃ r, ahead (i, p) x = r := ⟨_, rfl⟩
      have HA : Hid (∀ w, Calls Try.prog 21 #[.agg #[.int .u64 (i : Int), .int .i64 p], .agg #[.int .u64 (x.1 : Int), .int .i64 x.2]] w fun e w' => e = .returned (.bool r) ∧ Below w.heap.size w w') := Lib.hid (fun w => by rw [← hr]; exact refAhead_any (i, p) x w)
      have HQ := Lib.hid hr
      clear hx hc x0 x1 hr
      cases r with
      | false =>
        have HN2 : Hid (∀ j y, j < k + 1 → ls[j]? = some y → ahead (i, p) y = false) := Lib.hid (fun j y hj hy => by
          by_cases hjk : j = k
          · subst hjk; rw [HX.out] at hy; cases hy; exact HQ.out
          · exact HN.out j y (by omega) hy)
        go_wp2_with fail
        refine Quiet.region (by kernel_rfl) (by kernel_rfl) ?_
        repeat (go_big_quiet_step (first | (go_at_call 21; (with_reducible exact Quiet.calls (HA.out _)))))
        refine wpQuiet_nil ?_
        rintro _ ⟨pq, rfl⟩
        have hq := hb.trans (pq.below.mono hb.size)
        generalize pq.world = ws at hq ⊢
        clear c0 c1 c2 c3
        go_wp2
        go_roundw
        case rel => exact ⟨k + 1, by omega, by go_num, HN2.out, hq⟩
        case measure => simp [intOf]; omega
      | true =>
        have HI : Hid (insL (i, p) ls = ls.take k ++ [(i, p)] ++ ls.drop k) := Lib.hid (HFI.out (fun y hy => by rw [HX.out] at hy; cases hy; exact HQ.out))
        go_wp2_with fail
        refine Quiet.region (by kernel_rfl) (by kernel_rfl) ?_
        repeat (go_big_quiet_step (first | (go_at_call 21; (with_reducible exact Quiet.calls (HA.out _)))))
        refine wpQuiet_nil ?_
        rintro _ ⟨pq, rfl⟩
        have hq := hb.trans (pq.below.mono hb.size)
        generalize pq.world = ws at hq ⊢
        clear c0 c1 c2 c3
        go_wp2_with fail
        have hd0 : Below W.heap.size W ws.drew := hq.drew
        obtain ⟨c2, c3⟩ := HB.out ws.drew hd0
        have hr0 := HV.out.below hd0
        obtain ⟨v1, hs1, hr1⟩ := take_row Try.underlying27 infoR hr0 k (by omega)
        obtain ⟨v2, hs2, hr2⟩ := drop_row Try.underlying27 infoR hr0 k (by omega)
        have hl1 : (ls.take k).length + 1 + (ls.drop k).length ≤ 8796093022208 := by rw [List.length_take, List.length_drop]; omega
        have hfa := fair_ins hr0.fair HF.out k
        obtain ⟨v3, w3, ha3, hm3, hb3⟩ := append_row Try.underlying27 infoR (Mine.nil 34 ws.drew ws.drew.heap.size) hr1 (by simp; omega) (Nat.le_refl _) 27
        have hg3 : Below ws.drew.heap.size ws.drew (w3.alloc (.cells #[.int .u64 (i : Int), .int .i64 p] 34)) := hb3.alloc hb3.size _
        obtain ⟨v5, w5, ha5, hm5, hb5⟩ := append_row Try.underlying27 infoR (hm3.more ((Below.refl w3.heap.size w3).alloc (Nat.le_refl _) (.cells #[.int .u64 (i : Int), .int .i64 p] 34))) (new_row 34 w3 (i, p) HF.out) (by simp; omega) (by rw [World.size_alloc]; have := hb3.size; omega) 27
        obtain ⟨v6, w6, ha6, hm6, hb6⟩ := append_row Try.underlying27 infoR hm5 (hr2.below (hg3.trans hb5)) (by simp; omega) (by have := (hg3.trans hb5).size; omega) 27
        have HM6 := Lib.hid (hm6.row (by simpa using hfa))
        have HD3 := Lib.hid (HB.out w3 (hd0.trans (hb3.mono hd0.size)))
        have HD4 := Lib.hid (HB.out (w3.alloc (.cells #[.int .u64 (i : Int), .int .i64 p] 34)) (hd0.trans (hg3.mono hd0.size)))
        have HD5 := Lib.hid (HB.out w5 (hd0.trans ((hg3.trans hb5).mono hd0.size)))
        have HD6 := Lib.hid (HB.out w6 (hd0.trans (((hg3.trans hb5).trans hb6).mono hd0.size)))
        have HZ6 : Hid (Below w.heap.size w w6) := Lib.hid (hwW.trans ((hd0.trans (((hg3.trans hb5).trans hb6).mono hd0.size)).mono hwW.size))
        have hg7 : Below ws.drew.heap.size ws.drew (ws.drew.alloc (.cells #[.int .u64 (i : Int), .int .i64 p] 34)) := (Below.refl _ _).alloc (Nat.le_refl _) _
        obtain ⟨v8, w8, ha8, hm8, hb8⟩ := append_row Try.underlying27 infoR (Mine.nil 34 (ws.drew.alloc (.cells #[.int .u64 (i : Int), .int .i64 p] 34)) (ws.drew.alloc (.cells #[.int .u64 (i : Int), .int .i64 p] 34)).heap.size) (hr1.below hg7) (by simp; omega) (Nat.le_refl _) 27
        have hg8 := hg7.trans (hb8.mono hg7.size)
        obtain ⟨v9, w9, ha9, hm9, hb9⟩ := append_row Try.underlying27 infoR hm8 ((new_row 34 ws.drew (i, p) HF.out).below hb8) (by simp; omega) hb8.size 27
        have hg9 := hg8.trans (hb9.mono hg7.size)
        obtain ⟨v10, w10, ha10, hm10, hb10⟩ := append_row Try.underlying27 infoR hm9 (hr2.below hg9) (by simp; omega) (hb8.trans hb9).size 27
        have hg10 := hg9.trans (hb10.mono hg7.size)
        have HM10 := Lib.hid (hm10.row (by simpa using hfa))
        have HD7 := Lib.hid (HB.out (ws.drew.alloc (.cells #[.int .u64 (i : Int), .int .i64 p] 34)) (hd0.trans (hg7.mono hd0.size)))
        have HD8 := Lib.hid (HB.out w8 (hd0.trans (hg8.mono hd0.size)))
        have HD9 := Lib.hid (HB.out w9 (hd0.trans (hg9.mono hd0.size)))
        have HD10 := Lib.hid (HB.out w10 (hd0.trans (hg10.mono hd0.size)))
        have HZ10 : Hid (Below w.heap.size w w10) := Lib.hid (hwW.trans ((hd0.trans (hg10.mono hd0.size)).mono hwW.size))
        simp only [List.nil_append] at HM6 HM10
        clear hm3 hm5 hm6 hm8 hm9 hm10 hr0 hr1 hr2 hb3 hb5 hb6 hb8 hb9 hb10 hg3 hg7 hg8 hg9 hg10 hl1 hfa hd0 hq
        refine wp_region_held_drew (S := fun z => z.cell? ⟨w.heap.size, 0, none⟩ = some (.int .u64 (i : Int)) ∧ z.cell? ⟨w.heap.size, 1, none⟩ = some (.int .i64 p)) (by kernel_rfl) ⟨c2, c3⟩ (fun hHeld => ?_)
        clear c2 c3
        (refine wpAnyH_take (i := 0) (v := ?_) rfl (by kernel_rfl) (by kernel_rfl) (by kernel_rfl) (fun _ _ _ h => h) (Or.inl ⟨by rfl, ?_⟩) hHeld ?_; rotate_left; focus (intro w hSw; (try dsimp only at hSw); go_simp; try with_reducible rfl))
        (refine wpAnyH_take (i := 1) (v := ?_) rfl (by kernel_rfl) (by kernel_rfl) (by kernel_rfl) (fun _ _ _ h => h) (Or.inl ⟨by rfl, ?_⟩) hHeld ?_; rotate_left; focus (intro w hSw; (try dsimp only at hSw); go_simp; try with_reducible rfl))
        (refine wpAnyH_take (i := 2) (v := v1) rfl (by kernel_rfl) (by kernel_rfl) (by kernel_rfl) (fun _ _ _ h => h) (Or.inl ⟨by rfl, ?_⟩) hHeld ?_; focus (intro w hSw; (try dsimp only at hSw); exact held_slice 27 (.tmp 44) none (some (.tmp 45)) (by kernel_rfl) 34 Try.underlying27 (u := .slice (some ⟨g, o, none⟩) ls.length cap) (vl := none) (vh := some (.int .i64 (k : Int))) (by kernel_rfl) (by kernel_rfl) (by kernel_rfl) (hs1 _)))
        (refine wpAnyH_take (i := 4) (v := ?_) rfl (by kernel_rfl) (by kernel_rfl) (by kernel_rfl) (fun _ _ _ h => h) (Or.inl ⟨by rfl, ?_⟩) hHeld ?_; rotate_left; focus (intro w hSw; (try dsimp only at hSw); go_simp; try with_reducible rfl))
        (refine wpAnyH_take (i := 7) (v := ?_) rfl (by kernel_rfl) (by kernel_rfl) (by kernel_rfl) (fun _ _ _ h => h) (Or.inl ⟨by rfl, ?_⟩) hHeld ?_; rotate_left; focus (intro w hSw; (try dsimp only at hSw); go_simp; try with_reducible rfl))
        (refine wpAnyH_take (i := 8) (v := ?_) rfl (by kernel_rfl) (by kernel_rfl) (by kernel_rfl) (fun _ _ _ h => h) (Or.inl ⟨by rfl, ?_⟩) hHeld ?_; rotate_left; focus (intro w hSw; (try dsimp only at hSw); go_simp; try with_reducible rfl))
        (refine wpAnyH_take (i := 9) (v := v2) rfl (by kernel_rfl) (by kernel_rfl) (by kernel_rfl) (fun _ _ _ h => h) (Or.inl ⟨by rfl, ?_⟩) hHeld ?_; focus (intro w hSw; (try dsimp only at hSw); exact held_slice 27 (.tmp 51) (some (.tmp 52)) none (by kernel_rfl) 34 Try.underlying27 (u := .slice (some ⟨g, o, none⟩) ls.length cap) (vl := some (.int .i64 (k : Int))) (vh := none) (by kernel_rfl) (by kernel_rfl) (by kernel_rfl) (hs2 _)))
        refine wpAnyH_ready (rs := [3, 5]) (by kernel_rfl) (by simp) ?_
        refine AllReadyH.cons rfl (fun K hK => ?_) (AllReadyH.cons rfl (fun K hK => ?_) AllReadyH.nil)
        · (refine step_append _ (by kernel_rfl) (.const (.slice none 0 0)) (.tmp 46) 27 27 (by kernel_rfl) (.slice none 0 0) v1 (by kernel_rfl) (by kernel_rfl) v3 w3 ha3 ?_; refine hK.out _ _ HD3.out (fun hHeld => ?_); clear hK K)
          (refine wpAnyH_ready (rs := [5]) (by kernel_rfl) (by simp) ?_; refine AllReadyH.cons rfl (fun K hK => ?_) AllReadyH.nil; go_simp; refine hK.out _ _ HD4.out (fun hHeld => ?_); clear hK K)
          (refine wpAnyH_ready (rs := [6]) (by kernel_rfl) (by simp) ?_; refine AllReadyH.cons rfl (fun K hK => ?_) AllReadyH.nil; refine step_append _ (by kernel_rfl) (.tmp 47) (.tmp 49) 27 27 (by kernel_rfl) v3 (.slice (some ⟨w3.heap.size, 0, none⟩) 1 1) (by kernel_rfl) (by kernel_rfl) v5 w5 ha5 ?_; refine hK.out _ _ HD5.out (fun hHeld => ?_); clear hK K)
          (refine wpAnyH_ready (rs := [10]) (by kernel_rfl) (by simp) ?_; refine AllReadyH.cons rfl (fun K hK => ?_) AllReadyH.nil; refine step_append _ (by kernel_rfl) (.tmp 50) (.tmp 53) 27 27 (by kernel_rfl) v5 v2 (by kernel_rfl) (by kernel_rfl) v6 w6 ha6 ?_; refine hK.out _ _ HD6.out (fun hHeld => ?_); clear hK K)
          (refine wpAnyH_take (i := 11) (v := ?_) rfl (by kernel_rfl) (by kernel_rfl) (by kernel_rfl) (fun _ _ _ h => h) (Or.inl ⟨by rfl, ?_⟩) hHeld ?_; rotate_left; focus (intro w hSw; (try dsimp only at hSw); go_simp; try with_reducible rfl))
          (refine wpAnyH_take (i := 12) (v := ?_) rfl (by kernel_rfl) (by kernel_rfl) (by kernel_rfl) (fun _ _ _ h => h) (Or.inl ⟨by rfl, ?_⟩) hHeld ?_; rotate_left; focus (intro w hSw; (try dsimp only at hSw); go_simp; try with_reducible rfl))
          refine wpAnyH_done (by kernel_rfl) ?_ _
          simp only [Act.put, List.getElem_toArray, List.getElem_cons_succ, List.getElem_cons_zero, List.setIfInBounds_toArray, List.set_cons_succ, List.set_cons_zero]
          go_wp2
          go_ret2
          rw [HE.out, HI.out]
          exact ⟨⟨_, rfl, HM6.out⟩, HZ6.out⟩
        · (go_simp; refine hK.out _ _ HD7.out (fun hHeld => ?_); clear hK K)
          (refine wpAnyH_ready (rs := [3]) (by kernel_rfl) (by simp) ?_; refine AllReadyH.cons rfl (fun K hK => ?_) AllReadyH.nil; refine step_append _ (by kernel_rfl) (.const (.slice none 0 0)) (.tmp 46) 27 27 (by kernel_rfl) (.slice none 0 0) v1 (by kernel_rfl) (by kernel_rfl) v8 w8 ha8 ?_; refine hK.out _ _ HD8.out (fun hHeld => ?_); clear hK K)
          (refine wpAnyH_ready (rs := [6]) (by kernel_rfl) (by simp) ?_; refine AllReadyH.cons rfl (fun K hK => ?_) AllReadyH.nil; refine step_append _ (by kernel_rfl) (.tmp 47) (.tmp 49) 27 27 (by kernel_rfl) v8 (.slice (some ⟨ws.drew.heap.size, 0, none⟩) 1 1) (by kernel_rfl) (by kernel_rfl) v9 w9 ha9 ?_; refine hK.out _ _ HD9.out (fun hHeld => ?_); clear hK K)
          (refine wpAnyH_ready (rs := [10]) (by kernel_rfl) (by simp) ?_; refine AllReadyH.cons rfl (fun K hK => ?_) AllReadyH.nil; refine step_append _ (by kernel_rfl) (.tmp 50) (.tmp 53) 27 27 (by kernel_rfl) v9 v2 (by kernel_rfl) (by kernel_rfl) v10 w10 ha10 ?_; refine hK.out _ _ HD10.out (fun hHeld => ?_); clear hK K)
          (refine wpAnyH_take (i := 11) (v := ?_) rfl (by kernel_rfl) (by kernel_rfl) (by kernel_rfl) (fun _ _ _ h => h) (Or.inl ⟨by rfl, ?_⟩) hHeld ?_; rotate_left; focus (intro w hSw; (try dsimp only at hSw); go_simp; try with_reducible rfl))
          (refine wpAnyH_take (i := 12) (v := ?_) rfl (by kernel_rfl) (by kernel_rfl) (by kernel_rfl) (fun _ _ _ h => h) (Or.inl ⟨by rfl, ?_⟩) hHeld ?_; rotate_left; focus (intro w hSw; (try dsimp only at hSw); go_simp; try with_reducible rfl))
          refine wpAnyH_done (by kernel_rfl) ?_ _
          simp only [Act.put, List.getElem_toArray, List.getElem_cons_succ, List.getElem_cons_zero, List.setIfInBounds_toArray, List.set_cons_succ, List.set_cons_zero]
          go_wp2
          go_ret2
          rw [HE.out, HI.out]
          exact ⟨⟨_, rfl, HM10.out⟩, HZ10.out⟩
    · have hltz : ¬ (k : Int) < (ls.length : Int) := by omega
      have hltb : decide ((k : Int) < (ls.length : Int)) = false := decide_eq_false hltz
      have hk0 : (0 : Int) ≤ (k : Int) := by omega
      have HI : Hid (insL (i, p) ls = ls.take k ++ [(i, p)] ++ ls.drop k) := Lib.hid (HFI.out (fun y hy => by rw [List.getElem?_eq_none (by omega)] at hy; cases hy))
      go_wp2_with fail
      refine Quiet.region (by kernel_rfl) (by kernel_rfl) ?_
      repeat (go_big_quiet_step (fail))
      refine wpQuiet_nil ?_
      rintro _ ⟨pq, rfl⟩
      have hq := hb.trans (pq.below.mono hb.size)
      generalize pq.world = ws at hq ⊢
      go_wp2_with fail
      have hd0 : Below W.heap.size W ws.drew := hq.drew
      obtain ⟨c2, c3⟩ := HB.out ws.drew hd0
      have hr0 := HV.out.below hd0
      obtain ⟨v1, hs1, hr1⟩ := take_row Try.underlying27 infoR hr0 k (by omega)
      obtain ⟨v2, hs2, hr2⟩ := drop_row Try.underlying27 infoR hr0 k (by omega)
      have hl1 : (ls.take k).length + 1 + (ls.drop k).length ≤ 8796093022208 := by rw [List.length_take, List.length_drop]; omega
      have hfa := fair_ins hr0.fair HF.out k
      obtain ⟨v3, w3, ha3, hm3, hb3⟩ := append_row Try.underlying27 infoR (Mine.nil 34 ws.drew ws.drew.heap.size) hr1 (by simp; omega) (Nat.le_refl _) 27
      have hg3 : Below ws.drew.heap.size ws.drew (w3.alloc (.cells #[.int .u64 (i : Int), .int .i64 p] 34)) := hb3.alloc hb3.size _
      obtain ⟨v5, w5, ha5, hm5, hb5⟩ := append_row Try.underlying27 infoR (hm3.more ((Below.refl w3.heap.size w3).alloc (Nat.le_refl _) (.cells #[.int .u64 (i : Int), .int .i64 p] 34))) (new_row 34 w3 (i, p) HF.out) (by simp; omega) (by rw [World.size_alloc]; have := hb3.size; omega) 27
      obtain ⟨v6, w6, ha6, hm6, hb6⟩ := append_row Try.underlying27 infoR hm5 (hr2.below (hg3.trans hb5)) (by simp; omega) (by have := (hg3.trans hb5).size; omega) 27
      have HM6 := Lib.hid (hm6.row (by simpa using hfa))
      have HD3 := Lib.hid (HB.out w3 (hd0.trans (hb3.mono hd0.size)))
      have HD4 := Lib.hid (HB.out (w3.alloc (.cells #[.int .u64 (i : Int), .int .i64 p] 34)) (hd0.trans (hg3.mono hd0.size)))
      have HD5 := Lib.hid (HB.out w5 (hd0.trans ((hg3.trans hb5).mono hd0.size)))
      have HD6 := Lib.hid (HB.out w6 (hd0.trans (((hg3.trans hb5).trans hb6).mono hd0.size)))
      have HZ6 : Hid (Below w.heap.size w w6) := Lib.hid (hwW.trans ((hd0.trans (((hg3.trans hb5).trans hb6).mono hd0.size)).mono hwW.size))
      have hg7 : Below ws.drew.heap.size ws.drew (ws.drew.alloc (.cells #[.int .u64 (i : Int), .int .i64 p] 34)) := (Below.refl _ _).alloc (Nat.le_refl _) _
      obtain ⟨v8, w8, ha8, hm8, hb8⟩ := append_row Try.underlying27 infoR (Mine.nil 34 (ws.drew.alloc (.cells #[.int .u64 (i : Int), .int .i64 p] 34)) (ws.drew.alloc (.cells #[.int .u64 (i : Int), .int .i64 p] 34)).heap.size) (hr1.below hg7) (by simp; omega) (Nat.le_refl _) 27
      have hg8 := hg7.trans (hb8.mono hg7.size)
      obtain ⟨v9, w9, ha9, hm9, hb9⟩ := append_row Try.underlying27 infoR hm8 ((new_row 34 ws.drew (i, p) HF.out).below hb8) (by simp; omega) hb8.size 27
      have hg9 := hg8.trans (hb9.mono hg7.size)
      obtain ⟨v10, w10, ha10, hm10, hb10⟩ := append_row Try.underlying27 infoR hm9 (hr2.below hg9) (by simp; omega) (hb8.trans hb9).size 27
      have hg10 := hg9.trans (hb10.mono hg7.size)
      have HM10 := Lib.hid (hm10.row (by simpa using hfa))
      have HD7 := Lib.hid (HB.out (ws.drew.alloc (.cells #[.int .u64 (i : Int), .int .i64 p] 34)) (hd0.trans (hg7.mono hd0.size)))
      have HD8 := Lib.hid (HB.out w8 (hd0.trans (hg8.mono hd0.size)))
      have HD9 := Lib.hid (HB.out w9 (hd0.trans (hg9.mono hd0.size)))
      have HD10 := Lib.hid (HB.out w10 (hd0.trans (hg10.mono hd0.size)))
      have HZ10 : Hid (Below w.heap.size w w10) := Lib.hid (hwW.trans ((hd0.trans (hg10.mono hd0.size)).mono hwW.size))
      simp only [List.nil_append] at HM6 HM10
      clear hm3 hm5 hm6 hm8 hm9 hm10 hr0 hr1 hr2 hb3 hb5 hb6 hb8 hb9 hb10 hg3 hg7 hg8 hg9 hg10 hl1 hfa hd0 hq
      refine wp_region_held_drew (S := fun z => z.cell? ⟨w.heap.size, 0, none⟩ = some (.int .u64 (i : Int)) ∧ z.cell? ⟨w.heap.size, 1, none⟩ = some (.int .i64 p)) (by kernel_rfl) ⟨c2, c3⟩ (fun hHeld => ?_)
      clear c2 c3
      (refine wpAnyH_take (i := 0) (v := ?_) rfl (by kernel_rfl) (by kernel_rfl) (by kernel_rfl) (fun _ _ _ h => h) (Or.inl ⟨by rfl, ?_⟩) hHeld ?_; rotate_left; focus (intro w hSw; (try dsimp only at hSw); go_simp; try with_reducible rfl))
      (refine wpAnyH_take (i := 1) (v := ?_) rfl (by kernel_rfl) (by kernel_rfl) (by kernel_rfl) (fun _ _ _ h => h) (Or.inl ⟨by rfl, ?_⟩) hHeld ?_; rotate_left; focus (intro w hSw; (try dsimp only at hSw); go_simp; try with_reducible rfl))
      (refine wpAnyH_take (i := 2) (v := v1) rfl (by kernel_rfl) (by kernel_rfl) (by kernel_rfl) (fun _ _ _ h => h) (Or.inl ⟨by rfl, ?_⟩) hHeld ?_; focus (intro w hSw; (try dsimp only at hSw); exact held_slice 27 (.tmp 44) none (some (.tmp 45)) (by kernel_rfl) 34 Try.underlying27 (u := .slice ad ls.length cap) (vl := none) (vh := some (.int .i64 (k : Int))) (by kernel_rfl) (by kernel_rfl) (by kernel_rfl) (hs1 _)))
      (refine wpAnyH_take (i := 4) (v := ?_) rfl (by kernel_rfl) (by kernel_rfl) (by kernel_rfl) (fun _ _ _ h => h) (Or.inl ⟨by rfl, ?_⟩) hHeld ?_; rotate_left; focus (intro w hSw; (try dsimp only at hSw); go_simp; try with_reducible rfl))
      (refine wpAnyH_take (i := 7) (v := ?_) rfl (by kernel_rfl) (by kernel_rfl) (by kernel_rfl) (fun _ _ _ h => h) (Or.inl ⟨by rfl, ?_⟩) hHeld ?_; rotate_left; focus (intro w hSw; (try dsimp only at hSw); go_simp; try with_reducible rfl))
      (refine wpAnyH_take (i := 8) (v := ?_) rfl (by kernel_rfl) (by kernel_rfl) (by kernel_rfl) (fun _ _ _ h => h) (Or.inl ⟨by rfl, ?_⟩) hHeld ?_; rotate_left; focus (intro w hSw; (try dsimp only at hSw); go_simp; try with_reducible rfl))
      (refine wpAnyH_take (i := 9) (v := v2) rfl (by kernel_rfl) (by kernel_rfl) (by kernel_rfl) (fun _ _ _ h => h) (Or.inl ⟨by rfl, ?_⟩) hHeld ?_; focus (intro w hSw; (try dsimp only at hSw); exact held_slice 27 (.tmp 51) (some (.tmp 52)) none (by kernel_rfl) 34 Try.underlying27 (u := .slice ad ls.length cap) (vl := some (.int .i64 (k : Int))) (vh := none) (by kernel_rfl) (by kernel_rfl) (by kernel_rfl) (hs2 _)))
      refine wpAnyH_ready (rs := [3, 5]) (by kernel_rfl) (by simp) ?_
      refine AllReadyH.cons rfl (fun K hK => ?_) (AllReadyH.cons rfl (fun K hK => ?_) AllReadyH.nil)
      · (refine step_append _ (by kernel_rfl) (.const (.slice none 0 0)) (.tmp 46) 27 27 (by kernel_rfl) (.slice none 0 0) v1 (by kernel_rfl) (by kernel_rfl) v3 w3 ha3 ?_; refine hK.out _ _ HD3.out (fun hHeld => ?_); clear hK K)
        (refine wpAnyH_ready (rs := [5]) (by kernel_rfl) (by simp) ?_; refine AllReadyH.cons rfl (fun K hK => ?_) AllReadyH.nil; go_simp; refine hK.out _ _ HD4.out (fun hHeld => ?_); clear hK K)
        (refine wpAnyH_ready (rs := [6]) (by kernel_rfl) (by simp) ?_; refine AllReadyH.cons rfl (fun K hK => ?_) AllReadyH.nil; refine step_append _ (by kernel_rfl) (.tmp 47) (.tmp 49) 27 27 (by kernel_rfl) v3 (.slice (some ⟨w3.heap.size, 0, none⟩) 1 1) (by kernel_rfl) (by kernel_rfl) v5 w5 ha5 ?_; refine hK.out _ _ HD5.out (fun hHeld => ?_); clear hK K)
        (refine wpAnyH_ready (rs := [10]) (by kernel_rfl) (by simp) ?_; refine AllReadyH.cons rfl (fun K hK => ?_) AllReadyH.nil; refine step_append _ (by kernel_rfl) (.tmp 50) (.tmp 53) 27 27 (by kernel_rfl) v5 v2 (by kernel_rfl) (by kernel_rfl) v6 w6 ha6 ?_; refine hK.out _ _ HD6.out (fun hHeld => ?_); clear hK K)
        (refine wpAnyH_take (i := 11) (v := ?_) rfl (by kernel_rfl) (by kernel_rfl) (by kernel_rfl) (fun _ _ _ h => h) (Or.inl ⟨by rfl, ?_⟩) hHeld ?_; rotate_left; focus (intro w hSw; (try dsimp only at hSw); go_simp; try with_reducible rfl))
        (refine wpAnyH_take (i := 12) (v := ?_) rfl (by kernel_rfl) (by kernel_rfl) (by kernel_rfl) (fun _ _ _ h => h) (Or.inl ⟨by rfl, ?_⟩) hHeld ?_; rotate_left; focus (intro w hSw; (try dsimp only at hSw); go_simp; try with_reducible rfl))
        refine wpAnyH_done (by kernel_rfl) ?_ _
        simp only [Act.put, List.getElem_toArray, List.getElem_cons_succ, List.getElem_cons_zero, List.setIfInBounds_toArray, List.set_cons_succ, List.set_cons_zero]
        go_wp2
        go_ret2
        rw [HE.out, HI.out]
        exact ⟨⟨_, rfl, HM6.out⟩, HZ6.out⟩
      · (go_simp; refine hK.out _ _ HD7.out (fun hHeld => ?_); clear hK K)
        (refine wpAnyH_ready (rs := [3]) (by kernel_rfl) (by simp) ?_; refine AllReadyH.cons rfl (fun K hK => ?_) AllReadyH.nil; refine step_append _ (by kernel_rfl) (.const (.slice none 0 0)) (.tmp 46) 27 27 (by kernel_rfl) (.slice none 0 0) v1 (by kernel_rfl) (by kernel_rfl) v8 w8 ha8 ?_; refine hK.out _ _ HD8.out (fun hHeld => ?_); clear hK K)
        (refine wpAnyH_ready (rs := [6]) (by kernel_rfl) (by simp) ?_; refine AllReadyH.cons rfl (fun K hK => ?_) AllReadyH.nil; refine step_append _ (by kernel_rfl) (.tmp 47) (.tmp 49) 27 27 (by kernel_rfl) v8 (.slice (some ⟨ws.drew.heap.size, 0, none⟩) 1 1) (by kernel_rfl) (by kernel_rfl) v9 w9 ha9 ?_; refine hK.out _ _ HD9.out (fun hHeld => ?_); clear hK K)
        (refine wpAnyH_ready (rs := [10]) (by kernel_rfl) (by simp) ?_; refine AllReadyH.cons rfl (fun K hK => ?_) AllReadyH.nil; refine step_append _ (by kernel_rfl) (.tmp 50) (.tmp 53) 27 27 (by kernel_rfl) v9 v2 (by kernel_rfl) (by kernel_rfl) v10 w10 ha10 ?_; refine hK.out _ _ HD10.out (fun hHeld => ?_); clear hK K)
        (refine wpAnyH_take (i := 11) (v := ?_) rfl (by kernel_rfl) (by kernel_rfl) (by kernel_rfl) (fun _ _ _ h => h) (Or.inl ⟨by rfl, ?_⟩) hHeld ?_; rotate_left; focus (intro w hSw; (try dsimp only at hSw); go_simp; try with_reducible rfl))
        (refine wpAnyH_take (i := 12) (v := ?_) rfl (by kernel_rfl) (by kernel_rfl) (by kernel_rfl) (fun _ _ _ h => h) (Or.inl ⟨by rfl, ?_⟩) hHeld ?_; rotate_left; focus (intro w hSw; (try dsimp only at hSw); go_simp; try with_reducible rfl))
        refine wpAnyH_done (by kernel_rfl) ?_ _
        simp only [Act.put, List.getElem_toArray, List.getElem_cons_succ, List.getElem_cons_zero, List.setIfInBounds_toArray, List.set_cons_succ, List.set_cons_zero]
        go_wp2
        go_ret2
        rw [HE.out, HI.out]
        exact ⟨⟨_, rfl, HM10.out⟩, HZ10.out⟩
end Go.Proofs.Ytimaehaaidjokaa.Queue
