/- Take (chapter 14): of any queue, any number, as the document has it; of memory that was there nothing turns. -/
import Derived.Test.YtimaehaaidjokaaUPush
namespace Go.Proofs.Ytimaehaaidjokaa.Queue
open Go.RowKit Go.Proofs.Ytimaehaaidjokaa.Rec

theorem sets_two (L A B : List Value) (h : L.length = A.length + B.length) : sets (sets L 0 A) A.length B = A ++ B := by
  rw [sets_part _ A 0 (by omega), sets_part _ B _ (by simp; omega)]
  simp only [List.take_zero, List.nil_append, Nat.zero_add]
  rw [List.take_left', List.drop_of_length_le (by simp; omega), List.append_nil]
  rfl
theorem remL_place (i : Nat) : ∀ q : List E, has q i = true → remL i q = q.take (placeN q i) ++ q.drop (placeN q i + 1)
  | [], h => by cases h
  | x :: q, h => by
    rw [has_cons] at h
    unfold remL placeN
    rw [List.findIdx_cons]
    cases hx : x.1 == i with
    | true => rfl
    | false =>
      rw [hx, Bool.false_or] at h
      have ih := remL_place i q h
      unfold placeN at ih
      simp only [cond_false, List.take_succ_cons, List.drop_succ_cons, List.cons_append]
      rw [← ih]; rfl
theorem placeN_less {q : List E} {i : Nat} (h : has q i = true) : placeN q i < q.length := by
  obtain ⟨x, hx, hx'⟩ := has_iff.1 h
  exact List.findIdx_lt_length_of_exists ⟨x, hx, by simpa using hx'⟩

set_option maxHeartbeats 4000000 in
set_option maxRecDepth 100000 in
theorem take_any (v : Value) (q : List E) (i : Nat) (w : World) (hv : Row w v q) (hz : q.length ≤ 8796093022208) :
    Calls Try.prog 13 #[v, .int .u64 (i : Int)] w fun e w' => (∃ u, e = .returned (.tuple #[u, .bool (takeL q i).2]) ∧ Row w' u (takeL q i).1) ∧ Below w.heap.size w w' := by
  have HPl := Lib.hid (place_any v q i w hv)
  have HF := Lib.hid hv.fair
  cases hh : has q i with
  | false =>
    have HT : Hid (takeL q i = (q, false)) := Lib.hid (by unfold takeL; rw [hh]; rfl)
    rw [place_neg hh] at HPl
    have HCl := Lib.hid fun wr (h : Below w.heap.size w wr) => cloneU_any v q wr (hv.below h) hz
    obtain ⟨a, vc, rfl, _, _⟩ := hv.slice
    clear hv hh
    go_enter Try.func13, Try.ntmps13
    go_wp2_with fail
    (with_reducible refine HPl.out.mono ?_)
    rintro _ wq ⟨rfl, hbq⟩
    have HBq := Lib.hid hbq
    go_wp2_with fail
    (with_reducible refine (HCl.out wq HBq.out).mono ?_)
    rintro _ wc ⟨⟨t, rfl, hown⟩, hbc⟩
    have HR := Lib.hid (hown.row HF.out)
    obtain ⟨ta, tc, rfl, _, _⟩ := hown.slice
    clear hown
    go_wp2
    go_ret2
    rw [HT.out]
    exact ⟨⟨_, rfl, HR.out⟩, HBq.out.trans (hbc.mono HBq.out.size)⟩
  | true =>
    obtain ⟨k, hk⟩ : ∃ k, placeN q i = k := ⟨_, rfl⟩
    have hkl := placeN_less hh
    have hrem := remL_place i q hh
    have hpl : placeL q i = (k : Int) := by unfold placeL; rw [if_pos hh, hk]
    rw [hk] at hkl hrem
    rw [hpl] at HPl
    have HT : Hid (takeL q i = (q.take k ++ q.drop (k + 1), true)) := Lib.hid (by unfold takeL; rw [hh, if_pos rfl, hrem])
    obtain ⟨m, hm⟩ : ∃ m, q.length = m + 1 := ⟨q.length - 1, by omega⟩
    obtain ⟨g, o, vc, rfl, hg, hvc, hvm, hcell⟩ : ∃ g o cap, v = .slice (some ⟨g, o, none⟩) q.length cap ∧ g < w.heap.size ∧ q.length ≤ cap ∧ cap ≤ maxLen ∧ Cells w g o q := by
      rcases hv with ⟨rfl, _⟩ | ⟨_, g, o, cap, h1, h2, h3, h4, h5⟩
      · simp at hkl
      · exact ⟨g, o, cap, h1, h2, h3, h4, h5⟩
    obtain ⟨i0, hi0, hz0, hzs, hzb⟩ := info_parts infoE
    have hfl : ∀ {wy : World}, Below w.heap.size w wy → ∀ j u, (q.flatMap enc)[j]? = some u → wy.cell? ⟨g, o + j, none⟩ = some u := fun {wy} hy j u hj => by
      have := (hcell.below hg hy).news j u hj
      rwa [Addr.add_lit] at this
    have hA : (flat recU (q.take k)).length = k * 2 := by rw [flat_len, List.length_take, Nat.min_eq_left (by omega)]; rfl
    have hD : (flat recU (q.drop (k + 1))).length = (m - k) * 2 := by rw [flat_len, List.length_drop, hm]; show (m + 1 - (k + 1)) * 2 = _; omega
    obtain ⟨n, hn⟩ : ∃ n, q.length = n := ⟨_, rfl⟩
    rw [hn] at hz hkl hm hvc HPl ⊢
    have HBK : Hid (∀ wq, Below w.heap.size w wq → ∃ W1 W2 W3, (Instr.makeSlice 22 (.int .i64 (m : Int)) (.int .i64 (m : Int))).run Try.prog wq = .ok (.slice (some ⟨wq.heap.size, 0, none⟩) m m) W1 ∧
        (∀ ty, (Builtin.copy_ #[22, 22] ty #[.slice (some ⟨wq.heap.size, 0, none⟩) m m, .slice (some ⟨g, o, none⟩) k vc]).run Try.prog W1 = .ok (goInt (k : Int)) W2) ∧
        (∀ ty d dc (a : Addr) sc, (d = k * 2 ∧ a = ⟨g, o + (k + 1) * 2, none⟩ ∨ m = k) → (Builtin.copy_ #[22, 22] ty #[.slice (some ⟨wq.heap.size, d, none⟩) (m - k) dc, .slice (some a) (m - k) sc]).run Try.prog W2.drew = .ok (goInt ((m - k : Nat) : Int)) W3) ∧
        Row W3 (.slice (some ⟨wq.heap.size, 0, none⟩) m m) (q.take k ++ q.drop (k + 1)) ∧ Below w.heap.size w W3) := Lib.hid fun wq hbq => by
      obtain ⟨W1, hmk, hown1, hg1⟩ := run_make_full (P := Try.prog) wq wq.heap.size 22 25 i0 zeroE 2 Try.underlying22 hi0 hz0 hzs .i64 .i64 m (by rw [hzb]; omega) (by unfold maxLen; omega) (Nat.le_refl _)
      have hb1 : Below wq.heap.size wq W1 := (Below.refl _ _).grown hg1 (Nat.le_refl _) (fun k hk => by cases hk)
      have hb1w : Below w.heap.size w W1 := hbq.trans (hb1.mono hbq.size)
      have hown2 := own_sets (flat recU (q.take k)) 0 hown1
      obtain ⟨W2, hW2⟩ : ∃ W2, W2 = W1.setCells wq.heap.size 0 (flat recU (q.take k)) := ⟨_, rfl⟩
      rw [← hW2] at hown2
      have hb2 : Below wq.heap.size wq W2 := by rw [hW2]; exact sets_below (Nat.le_refl _) _ _ hb1
      have hb2w : Below w.heap.size w W2 := hbq.trans (hb2.mono hbq.size)
      have hown3 := own_sets (w := W2.drew) (flat recU (q.drop (k + 1))) (k * 2) hown2
      obtain ⟨W3, hW3⟩ : ∃ W3, W3 = W2.drew.setCells wq.heap.size (k * 2) (flat recU (q.drop (k + 1))) := ⟨_, rfl⟩
      rw [← hW3] at hown3
      have hb3 : Below wq.heap.size wq W3 := by rw [hW3]; exact sets_below (Nat.le_refl _) _ _ hb2.drew
      have hfin := sets_two (madeCells zeroE.cells (m * 2)).toList (flat recU (q.take k)) (flat recU (q.drop (k + 1))) (by rw [hown1.1, hA, hD]; omega)
      rw [hA] at hfin
      rw [hfin, ← flat_append] at hown3
      refine ⟨W1, W2, W3, hmk, fun ty => ?_, fun ty d dc a sc hda => ?_, ?_, hbq.trans (hb3.mono hbq.size)⟩
      · rw [hW2]
        refine run_copy_size W1 _ _ ty 25 2 k wq.heap.size 0 m m ⟨g, o, none⟩ k vc (flat recU (q.take k)) Try.underlying22 sizeU' (by simp only [Nat.min_def]; split <;> omega) hA (fun j v hj => ?_) (fun j hj => ?_) (fun j _ => ?_) (flat_one recU _)
        · rw [Addr.add_lit]
          refine hfl hb1w j v ?_
          have e := flat_take recU q k
          rw [← e, List.getElem?_take] at hj
          split at hj
          · exact hj
          · cases hj
        · rw [Nat.zero_add]; exact own_isSome hown1 (by omega)
        · exact hown1.frozenAt _
      · rcases hda with ⟨rfl, rfl⟩ | rfl
        · rw [hW3]
          refine run_copy_size W2.drew _ _ ty 25 2 (m - k) wq.heap.size (k * 2) (m - k) dc ⟨g, o + (k + 1) * 2, none⟩ (m - k) sc (flat recU (q.drop (k + 1))) Try.underlying22 sizeU' (by simp only [Nat.min_def]; split <;> omega) hD (fun j v hj => ?_) (fun j hj => ?_) (fun j _ => ?_) (flat_one recU _)
          · rw [Addr.add_lit, Nat.add_assoc]
            refine hfl hb2w.drew _ v ?_
            have e := flat_drop recU q (k + 1)
            rw [← e, List.getElem?_drop] at hj
            exact hj
          · exact own_isSome hown2 (by omega)
          · exact hown2.frozenAt _
        · have h0 : flat recU (q.drop (m + 1)) = [] := List.eq_nil_of_length_eq_zero (by rw [hD]; omega)
          rw [hW3, h0]
          have := run_copy_size (P := Try.prog) W2.drew 22 22 ty 25 2 0 wq.heap.size d (m - m) dc a (m - m) sc [] Try.underlying22 sizeU' (by simp) rfl (fun j v hj => by simp at hj) (fun j hj => by simp at hj) (fun j hj => by simp at hj) (fun v hv => by simp at hv)
          rw [this, Nat.sub_self]
          rfl
      · have hl : (q.take k ++ q.drop (k + 1)).length = m := by rw [List.length_append, List.length_take, List.length_drop]; omega
        have hM : Mine 25 W3 wq.heap.size (.slice (some ⟨wq.heap.size, 0, none⟩) m m) (q.take k ++ q.drop (k + 1)) := by
          unfold Mine
          rw [hl]
          exact hown3
        exact hM.row fun c hc => by
          rw [List.mem_append] at hc
          rcases hc with hc | hc
          · exact HF.out c (List.mem_of_mem_take hc)
          · exact HF.out c (List.mem_of_mem_drop hc)
    have hw1 : IntKind.i64.wrap ((n : Int) - 1) = (m : Int) := by rw [IntKind.wrap_i64]; omega
    have hw2 : IntKind.i64.wrap ((k : Int) + 1) = (k : Int) + 1 := by rw [IntKind.wrap_i64]; omega
    have hk0 : ¬ ((k : Int) < 0) := by omega
    have hk1 : (0 : Int) ≤ (k : Int) := by omega
    have hk2 : (k : Int) ≤ (vc : Int) := by omega
    have hk3 : (k : Int) ≤ (m : Int) := by omega
    have hk4 : (0 : Int) ≤ (k : Int) + 1 := by omega
    have hk5 : (k : Int) + 1 ≤ (n : Int) := by omega
    have hk6 : ((k : Int) + 1).toNat = k + 1 := by omega
    have hk7 : n - (k + 1) = m - k := by omega
    have hcs : (m = k ∧ vc = k + 1) ∨ (m = k ∧ ¬ vc = k + 1) ∨ (¬ m = k ∧ ¬ vc = k + 1) := by omega
    clear hfl hcell hA hD hrem hpl hk hh hkl hi0 hz0 hzs hzb hvm hg hm hn hvc
    go_enter Try.func13, Try.ntmps13
    go_wp2_with fail
    (with_reducible refine HPl.out.mono ?_)
    rintro _ wq ⟨rfl, hbq⟩
    obtain ⟨W1, W2, W3, hmk, hc1, hc2, hrow, hb3⟩ := HBK.out wq hbq
    have HRow := Lib.hid hrow
    have HB3 := Lib.hid hb3
    obtain ⟨N, hN⟩ : ∃ N, wq.heap.size = N := ⟨_, rfl⟩
    rw [hN] at hmk hc1 hc2 HRow
    have HC2 := Lib.hid hc2
    clear HBK HPl hrow hb3 hN hbq hc2
    rcases hcs with ⟨rfl, rfl⟩ | ⟨rfl, hv1⟩ | ⟨hm1, hv1⟩
    · have hc3 : ∀ ty (a : Addr), (Builtin.copy_ #[22, 22] ty #[.slice (some ⟨N, 0, none⟩) 0 0, .slice (some a) 0 0]).run Try.prog W2.drew = .ok (goInt 0) W3 := fun ty a => by
        have := HC2.out ty 0 0 a 0 (.inr rfl)
        rw [Nat.sub_self] at this
        exact this
      have hk7' : n - (m + 1) = 0 := by omega
      go_wp2_with (at_builtin; refine list_copy rfl _ _ 22 22 rfl _ _ rfl rfl (hc1 _) ?_)
      go_region_law (refine step_copy rfl _ _ 22 22 rfl (.slice (some ⟨N, 0, none⟩) 0 0) (.slice (some ⟨g, o, none⟩) 0 0) (by simp [Act.eval, Act.put]) (by simp [Act.eval, Act.put]) (hc3 _ _) ?_)
      go_wp2
      go_ret2
      rw [HT.out]
      exact ⟨⟨_, rfl, HRow.out⟩, HB3.out⟩
    · have hc3 : ∀ ty (a : Addr) sc, (Builtin.copy_ #[22, 22] ty #[.slice (some ⟨N, 0, none⟩) 0 0, .slice (some a) 0 sc]).run Try.prog W2.drew = .ok (goInt 0) W3 := fun ty a sc => by
        have := HC2.out ty 0 0 a sc (.inr rfl)
        rw [Nat.sub_self] at this
        exact this
      have hk7' : n - (m + 1) = 0 := by omega
      go_wp2_with (at_builtin; refine list_copy rfl _ _ 22 22 rfl _ _ rfl rfl (hc1 _) ?_)
      go_region_law (refine step_copy rfl _ _ 22 22 rfl (.slice (some ⟨N, 0, none⟩) 0 0) (.slice (some ⟨g, o + (m + 1) * 2, none⟩) 0 (vc - (m + 1))) (by simp [Act.eval, Act.put]) (by simp [Act.eval, Act.put]) (hc3 _ _ _) ?_)
      go_wp2
      go_ret2
      rw [HT.out]
      exact ⟨⟨_, rfl, HRow.out⟩, HB3.out⟩
    · have hc3 : ∀ ty dc sc, (Builtin.copy_ #[22, 22] ty #[.slice (some ⟨N, k * 2, none⟩) (m - k) dc, .slice (some ⟨g, o + (k + 1) * 2, none⟩) (m - k) sc]).run Try.prog W2.drew = .ok (goInt ((m - k : Nat) : Int)) W3 := fun ty dc sc => HC2.out ty (k * 2) dc _ sc (.inl ⟨rfl, rfl⟩)
      go_wp2_with (at_builtin; refine list_copy rfl _ _ 22 22 rfl _ _ rfl rfl (hc1 _) ?_)
      go_region_law (refine step_copy rfl _ _ 22 22 rfl (.slice (some ⟨N, k * 2, none⟩) (m - k) (m - k)) (.slice (some ⟨g, o + (k + 1) * 2, none⟩) (m - k) (vc - (k + 1))) (by simp [Act.eval, Act.put]) (by simp [Act.eval, Act.put]) (hc3 _ _ _) ?_)
      go_wp2
      go_ret2
      rw [HT.out]
      exact ⟨⟨_, rfl, HRow.out⟩, HB3.out⟩
end Go.Proofs.Ytimaehaaidjokaa.Queue
