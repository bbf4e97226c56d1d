/- What the document's own Parse answers of every text that is not too long for a machine: what the program's does; of memory that was there nothing turns. -/
import Derived.Test.YtpkaejacnblplaaRCut
namespace Go.Proofs.Ytpkaejacnblplaa.Label
open Go.RowKit Go.Proofs.Ytpkaejacnblplaa.Word

theorem cuts_len (c : UInt8) : ∀ (l : List UInt8), (cuts c l).length ≤ l.length + 1 ∧ ∀ t ∈ cuts c l, t.length ≤ l.length
  | [] => by simp [cuts]
  | d :: l => by
    obtain ⟨h1, h2⟩ := cuts_len c l
    have hne := cuts_ne c l
    unfold cuts
    cases hp : cuts c l with
    | nil => exact absurd hp hne
    | cons p ps =>
      rw [hp] at h1 h2
      split
      · refine ⟨by simp at h1 ⊢; omega, fun t ht => ?_⟩
        rcases List.mem_cons.1 ht with rfl | ht
        · simp
        · have := h2 t ht; simp; omega
      · simp only [List.headD_cons, List.tail_cons]
        refine ⟨by simp at h1 ⊢; omega, fun t ht => ?_⟩
        rcases List.mem_cons.1 ht with rfl | ht
        · have := h2 p (List.mem_cons_self ..); simp; omega
        · have := h2 t (List.mem_cons_of_mem _ ht); simp; omega

/-- A piece of two parts. -/
def twoOf : List (List UInt8) → Option Pr
  | [a, b] => some (str a, str b)
  | _ => none
def two (q : List UInt8) : Option Pr := twoOf (cuts 61 q)
def pairsOf : List (List UInt8) → Option (List Pr)
  | [] => some []
  | q :: qs => match two q with
    | none => none
    | some x => match pairsOf qs with
      | none => none
      | some xs => some (x :: xs)
def aheadP (done : List Pr) : Option (List Pr) → Option (List Pr)
  | none => none
  | some x => some (done ++ x)
theorem pairsOf_go {q : List UInt8} {qs : List (List UInt8)} {x : Pr} {done : List Pr} (h : two q = some x) : aheadP done (pairsOf (q :: qs)) = aheadP (done ++ [x]) (pairsOf qs) := by
  rw [pairsOf, h]
  simp only
  cases pairsOf qs with
  | none => rfl
  | some xs => simp [aheadP]
theorem pairsOf_stop {q : List UInt8} {qs : List (List UInt8)} {done : List Pr} (h : two q = none) : aheadP done (pairsOf (q :: qs)) = none := by
  rw [pairsOf, h]; rfl

theorem two_back {q : List UInt8} {x : Pr} (h : two q = some x) : q = x.1.data.toList ++ 61 :: x.2.data.toList := by
  unfold two twoOf at h
  split at h
  · rename_i a b he
    simp only [Option.some.injEq] at h
    subst h
    have := glue_cuts 61 q
    rw [he] at this
    rw [← this]
    simp [glueC, str_toList]
  · simp at h
theorem two_of {x : Pr} (h1 : (61 : UInt8) ∉ x.1.data.toList) (h2 : (61 : UInt8) ∉ x.2.data.toList) : two (x.1.data.toList ++ 61 :: x.2.data.toList) = some x := by
  unfold two
  rw [cuts_cut _ h1, cuts_free h2]
  simp only [twoOf, str_data]
theorem pairs_join : ∀ (qs : List (List UInt8)) (q : List UInt8) (xs : List Pr), pairsOf (q :: qs) = some xs → glueC 44 (q :: qs) = joinP xs ∧ xs ≠ []
  | [], q, xs, h => by
    unfold pairsOf at h
    split at h
    · simp at h
    · rename_i x hx
      simp [pairsOf] at h
      subst h
      rw [joinP_one, ← two_back hx]
      exact ⟨rfl, by simp⟩
  | q' :: qs, q, xs, h => by
    rw [pairsOf] at h
    split at h
    · simp at h
    · rename_i x hx
      split at h
      · simp at h
      · rename_i ys hys
        simp only [Option.some.injEq] at h
        subst h
        obtain ⟨h1, h2⟩ := pairs_join qs q' ys hys
        cases ys with
        | nil => exact absurd rfl h2
        | cons y ys =>
          refine ⟨?_, by simp⟩
          rw [joinP_more, ← two_back hx, ← h1]
          rfl
theorem pairs_of : ∀ (x : Pr) (ls : List Pr), (∀ y ∈ x :: ls, lacks y = false) → pairsOf (cuts 44 (joinP (x :: ls))) = some (x :: ls)
  | x, [], h => by
    obtain ⟨h1, h2⟩ := piece_free (h x (List.mem_cons_self ..))
    have h3 : (61 : UInt8) ∉ x.2.data.toList := by
      have := h x (List.mem_cons_self ..)
      unfold lacks at this
      rw [Bool.or_eq_false_iff, Bool.not_eq_false', Bool.not_eq_false'] at this
      exact (name_free this.2).2
    rw [joinP_one, cuts_free h2, pairsOf, two_of h1 h3]
    rfl
  | x, y :: ls, h => by
    obtain ⟨h1, h2⟩ := piece_free (h x (List.mem_cons_self ..))
    have h3 : (61 : UInt8) ∉ x.2.data.toList := by
      have := h x (List.mem_cons_self ..)
      unfold lacks at this
      rw [Bool.or_eq_false_iff, Bool.not_eq_false', Bool.not_eq_false'] at this
      exact (name_free this.2).2
    rw [joinP_more, cuts_cut _ h2, pairsOf, two_of h1 h3, pairs_of y ls (fun z hz => h z (List.mem_cons_of_mem _ hz))]
/-- What the pieces tell, if it is right. -/
def keepP : Option (List Pr) → Option (List Pr)
  | none => none
  | some ps => if rightL ps = true then some ps else none
/-- By its pieces the same is parsed. -/
theorem parse_pieces {s : ByteArray} (h : (s.toList == [45]) = false) : keepP (pairsOf (cuts 44 s.data.toList)) = parseL s := by
  cases hp : parseL s with
  | some ls =>
    obtain ⟨hr, ht⟩ := parse_back hp
    cases ls with
    | nil =>
      rw [text_none] at ht
      rw [← ht, Lib.toList_data] at h
      simp at h
    | cons x ls =>
      rw [textP_cons hr] at ht
      rw [← ht, str_toList, pairs_of x ls (rightL_parts hr).2.1]
      show (if rightL _ = true then _ else _) = _
      rw [if_pos hr]
  | none =>
    cases hq : pairsOf (cuts 44 s.data.toList) with
    | none => rfl
    | some xs =>
      show (if rightL xs = true then _ else _) = _
      split
      · rename_i hr
        exfalso
        have hne := cuts_ne 44 s.data.toList
        cases hc : cuts 44 s.data.toList with
        | nil => exact hne hc
        | cons q qs =>
          rw [hc] at hq
          obtain ⟨h1, h2⟩ := pairs_join qs q xs hq
          rw [← hc, glue_cuts] at h1
          cases xs with
          | nil => exact h2 rfl
          | cons x ls =>
            have h3 := parse_text hr
            rw [textP_cons hr, ← h1, str_data, hp] at h3
            cases h3
      · rfl

set_option maxHeartbeats 4000000 in
set_option maxRecDepth 100000 in
theorem refParse_rows (s : ByteArray) (hs : s.size ≤ 1048576) (w : World) :
    Calls Try.prog 16 #[.string s] w (TellsL (parseL s) w) := by
  obtain ⟨i0, hi, hz0, hz1, hz2⟩ := info_parts infoR
  obtain ⟨q, hq⟩ : ∃ q, (s.toList == [45]) = q := ⟨_, rfl⟩
  cases q with
  | true =>
    have HE1 : Hid (parseL s = some []) := Lib.hid (by unfold parseL; rw [if_pos hq])
    go_enter Try.func16, Try.ntmps16
    go_wp2
    go_ret2
    rw [HE1.out]
    exact ⟨⟨_, rfl, .inl ⟨rfl, _, _, rfl, Nat.zero_le _⟩⟩, Below.refl _ _⟩
  | false =>
    have HE1 := Lib.hid (parse_pieces hq)
    have hcl := cuts_len 44 s.data.toList
    rw [size_list] at hcl
    have HC : Hid (∀ w, Calls Try.prog 36 #[.string s, .int .u8 44] w fun e w' => (∃ v, e = .returned v ∧ SRow w' v ((cuts 44 s.data.toList).map str) ∧ ∀ g, v.ownBlock = some g → w.heap.size ≤ g) ∧ Below w.heap.size w w') := Lib.hid fun w => cut_rows s hs 44 w
    obtain ⟨ps, hps⟩ : ∃ ps, ps = cuts 44 s.data.toList := ⟨_, rfl⟩
    rw [← hps] at hcl HC HE1
    have hpl : ps.length ≤ 1048577 := by have := hcl.1; omega
    have HPL : Hid (∀ t ∈ ps, t.length ≤ 1048576) := Lib.hid fun t ht => Nat.le_trans (hcl.2 t ht) hs
    have HC2 : Hid (∀ (t : ByteArray), t.size ≤ 1048576 → ∀ w, Calls Try.prog 36 #[.string t, .int .u8 61] w fun e w' => (∃ v, e = .returned v ∧ SRow w' v ((cuts 61 t.data.toList).map str) ∧ ∀ g, v.ownBlock = some g → w.heap.size ≤ g) ∧ Below w.heap.size w w') := Lib.hid fun t ht w => cut_rows t ht 61 w
    clear hps hcl
    go_enter Try.func16, Try.ntmps16
    go_wp2_with fail
    refine (HC.out _).mono ?_
    rintro e w1 ⟨⟨pv, rfl, hpv, _⟩, hb1⟩
    obtain ⟨ad, cap, rfl⟩ := hpv.slice
    rw [List.length_map] at hpv ⊢
    have HPV := Lib.hid hpv
    clear hpv
    go_wp2_with fail
    go_loopw [4, 6] (fun t i wr => ∃ (k : Nat) (done : List Pr), i = .int .i64 k ∧ k ≤ ps.length ∧ done.length = k ∧ Small done ∧ aheadP done (pairsOf (ps.drop k)) = pairsOf ps ∧ wr.ownsRow w1.heap.size 53 2 t done.length (done.flatMap enc) ∧ Below w1.heap.size w1 wr) (fun _ i _ => ps.length - (intOf i).toNat)
    case atStart => exact ⟨0, [], rfl, Nat.zero_le _, rfl, fun x hx => by simp at hx, by rw [List.drop_zero]; cases pairsOf ps <;> rfl, World.ownsRow_nil _ _ _ _, Below.refl _ _⟩
    case round =>
      obtain ⟨k, done, rfl, hk, hd, hsm, hrd, hown, hb⟩ := hrel
      have HD := Lib.hid hd
      have HSM := Lib.hid hsm
      have HRD := Lib.hid hrd
      have HOWN := Lib.hid hown
      clear hd hrd hown hsm
      by_cases hlt : k < ps.length
      · have hltz : (k : Int) < (ps.length : Int) := by omega
        have hk0 : (0 : Int) ≤ (k : Int) := by omega
        obtain ⟨g, o, rfl, hg, hc⟩ := HPV.out.cells (k := k) (by rw [List.length_map]; exact hlt)
        obtain ⟨t, htk⟩ : ∃ t, ps[k]? = some t := ⟨_, List.getElem?_eq_getElem hlt⟩
        have hcell : wr.cell? ⟨g, o + k, none⟩ = some (.string (str t)) := hc.below hg hb k (str t) (by rw [List.getElem?_map, htk]; rfl)
        have htl := HPL.out t (List.mem_of_getElem? htk)
        have HDrop : Hid (ps.drop k = t :: ps.drop (k + 1)) := Lib.hid (by
          obtain ⟨h1, h2⟩ := List.getElem?_eq_some_iff.1 htk
          rw [List.drop_eq_getElem_cons h1, h2])
        have HCt := Lib.hid (HC2.out (str t) (by rw [str_size]; exact htl))
        rw [str_toList] at HCt
        have hlens := (cuts_len 61 t).2
        obtain ⟨tw, htw⟩ : ∃ tw, cuts 61 t = tw := ⟨_, rfl⟩
        rw [htw] at HCt hlens
        have HTW : Hid (two t = twoOf tw) := Lib.hid (by unfold two; rw [htw])
        have HTl := Lib.hid htl
        have HLens := Lib.hid hlens
        obtain ⟨T, hT⟩ : ∃ T, T = str t := ⟨_, rfl⟩
        rw [← hT] at HCt hcell
        clear htk hc hT htl hlens htw
        by_cases h2 : tw.length = 2
        · obtain ⟨a, b, rfl⟩ : ∃ a b, tw = [a, b] := by
            match tw, h2 with
            | [a, b], _ => exact ⟨a, b, rfl⟩
          have HX : Hid (two t = some (str a, str b)) := Lib.hid HTW.out
          have HSN : Hid (Small (done ++ [(str a, str b)])) := Lib.hid (HSM.out.snoc (by have := HLens.out a (by simp); have := HTl.out; show (str a).size ≤ _; rw [str_size]; omega) (by have := HLens.out b (by simp); have := HTl.out; show (str b).size ≤ _; rw [str_size]; omega))
          have HNext : Hid (aheadP (done ++ [(str a, str b)]) (pairsOf (ps.drop (k + 1))) = pairsOf ps) := Lib.hid (by rw [← HRD.out, HDrop.out]; exact (pairsOf_go HX.out).symm)
          go_wp2_with fail
          refine (HCt.out _).mono ?_
          rintro e w3 ⟨⟨tv, rfl, htv, hfar⟩, hb3⟩
          obtain ⟨ad2, cap2, rfl⟩ := htv.slice
          obtain ⟨g2, o2, rfl, hg2, hc2⟩ := htv.cells (k := 0) (by simp)
          have HK : Hid (∀ x, Below w3.heap.size w3 x → x.cell? ⟨g2, o2, none⟩ = some (.string (str a)) ∧ x.cell? ⟨g2, o2 + 1, none⟩ = some (.string (str b))) := Lib.hid fun x hx => ⟨hc2.below hg2 hx 0 (str a) rfl, hc2.below hg2 hx 1 (str b) rfl⟩
          have hbr3 := grows hb hb3
          have HOWN3 := Lib.hid (own_kept HOWN.out (w' := w3) (fun g hg => hb3.block g (HOWN.out.lt g hg).2))
          obtain ⟨x1, hx1⟩ : ∃ x, x = str a := ⟨_, rfl⟩
          obtain ⟨x2, hx2⟩ : ∃ x, x = str b := ⟨_, rfl⟩
          rw [← hx1] at HK HSN HNext
          rw [← hx2] at HK HSN HNext
          have hs0 : Below w3.heap.size w3 w3.drew := (Below.refl _ _).drew
          have hs1 : Below w3.heap.size w3 (World.alloc w3.drew (.cells #[.string x1, .string x2] 53)) := hs0.alloc hs0.size _
          have HO2 : Hid (∀ x, (w3.drew.alloc x).ownsRow w1.heap.size 53 2 u4 done.length (done.flatMap enc)) := Lib.hid fun x => World.ownsRow.alloc (w := w3.drew) HOWN3.out x
          have HLz : Hid (done.length + 1 ≤ maxLen ∧ (done.length + 1) * 32 ≤ 140737488355328 ∧ w1.heap.size ≤ w3.heap.size + 1) := Lib.hid (by have := HD.out; have := hbr3.size; unfold maxLen; omega)
          have hb2 : Below w1.heap.size w1 (World.alloc w3.drew (.cells #[.string x1, .string x2] 53)) := hbr3.trans (hs1.mono hbr3.size)
          have HFar : Hid (∀ w', World.grownBy (World.alloc w3.drew (.cells #[.string x1, .string x2] 53)) w' u4.ownBlock → w'.cell? ⟨g2, o2, none⟩ = some (.string x1) ∧ w'.cell? ⟨g2, o2 + 1, none⟩ = some (.string x2)) := Lib.hid fun w' h => by
            have hne : some g2 ≠ u4.ownBlock := fun he => by
              have h1 := (HOWN.out.lt g2 he.symm).2
              have h2 := hfar g2 rfl
              omega
            have hlt2 : g2 < (World.alloc w3.drew (.cells #[.string x1, .string x2] 53)).heap.size := by rw [World.size_alloc]; exact Nat.lt_succ_of_lt hg2
            obtain ⟨k1, k2⟩ := HK.out _ hs1
            rw [h.cell_far ⟨g2, o2, none⟩ hlt2 hne, h.cell_far ⟨g2, o2 + 1, none⟩ hlt2 hne]
            exact ⟨k1, k2⟩
          clear htv hc2 hx1 hx2 hcell hb3 hfar
          simp only [List.length_map, List.length_cons, List.length_nil]
          go_wp2_with fail
          go_region_held3 (fun x => x.cell? ⟨g2, o2, none⟩ = some (.string x1) ∧ x.cell? ⟨g2, o2 + 1, none⟩ = some (.string x2))
            (first | exact HK.out _ hs0 | exact HK.out _ hs1 | exact HFar.out _ hgr5)
            (first | (refine step_own _ rfl _ _ 24 rfl w1.heap.size 53 i0 (.agg #[.string ByteArray.empty, .string ByteArray.empty]) 2 32 Try.underlying24 hi hz0 hz1 hz2 rfl (by decide) u4 _ _ rfl (HO2.out _) ⟨w3.heap.size, 0, none⟩ 1 1 [.string x1, .string x2] rfl rfl (new_twoT _ w3.drew _ _) (fun u hu => by simp at hu; rcases hu with rfl | rfl <;> rfl) HLz.out.1 HLz.out.2.1 (by show _ ≤ (World.alloc w3 _).heap.size; rw [World.size_alloc]; exact HLz.out.2.2) ?_; intro v5 w5 hown5 hgr5; have b5 : Below w1.heap.size w1 w5 := hb2.grown hgr5 hb2.size (fun k hk => (HOWN.out.lt k hk).1)))
          have hown4 : w5.ownsRow w1.heap.size 53 2 v5 (done ++ [(x1, x2)]).length ((done ++ [(x1, x2)]).flatMap enc) := by rw [fm_snoc]; simpa using hown5
          clear hown5 hgr5
          go_wp2
          go_roundw
          case rel => exact ⟨k + 1, done ++ [(x1, x2)], by go_num, by omega, by simp [HD.out], HSN.out, HNext.out, hown4, b5⟩
          case measure => simp [intOf]; omega
        · have HX : Hid (two t = none) := Lib.hid (by
            rw [HTW.out]
            unfold twoOf
            split
            · simp at h2
            · rfl)
          have HE : Hid (parseL s = none) := Lib.hid (by rw [← HE1.out, ← HRD.out, HDrop.out, pairsOf_stop HX.out]; rfl)
          have hn2 : ((tw.length : Int) != 2) = true := by rw [bne_iff_ne]; omega
          have hn3 : ((tw.length : Int) == 2) = false := by rw [beq_eq_false_iff_ne]; omega
          go_wp2_with fail
          refine (HCt.out _).mono ?_
          rintro e w3 ⟨⟨tv, rfl, htv, _⟩, hb3⟩
          obtain ⟨ad2, cap2, rfl⟩ := htv.slice
          rw [List.length_map]
          have hbF := grows hb1 (grows hb hb3)
          clear htv h2
          go_wp2
          go_ret2
          rw [HE.out]
          exact ⟨rfl, hbF⟩
      · obtain rfl : k = ps.length := by omega
        have HE2 : Hid (parseL s = keepP (some done)) := Lib.hid (by
          have := HRD.out
          rw [List.drop_length] at this
          rw [← HE1.out, ← this]
          show keepP (some (done ++ [])) = _
          rw [List.append_nil])
        have hrow := own_rowT HOWN.out
        have HRow := Lib.hid hrow
        have HRt := Lib.hid (refRight_rows u4 done wr hrow HSM.out (by have := HD.out; omega))
        obtain ⟨g, hg⟩ : ∃ g, rightL done = g := ⟨_, rfl⟩
        rw [hg] at HRt
        have HE3 : Hid (parseL s = if g = true then some done else none) := Lib.hid (by rw [HE2.out, ← hg]; rfl)
        clear hrow hg
        go_wp2_with fail
        refine HRt.out.mono ?_
        rintro e w3 ⟨rfl, hb3⟩
        have hbF := grows hb1 (grows hb hb3)
        cases g with
        | true =>
          have HE : Hid (parseL s = some done) := Lib.hid (by rw [HE3.out, if_pos rfl])
          go_wp2
          go_ret2
          rw [HE.out]
          exact ⟨⟨_, rfl, HRow.out.below hb3⟩, hbF⟩
        | false =>
          have HE : Hid (parseL s = none) := Lib.hid (by rw [HE3.out, if_neg (by simp)])
          go_wp2
          go_ret2
          rw [HE.out]
          exact ⟨rfl, hbF⟩
end Go.Proofs.Ytpkaejacnblplaa.Label
