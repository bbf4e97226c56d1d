/- Proved: demesnelaw04.LabelFinds answers true for every slice of bytes and every text, and leaves them as they were. No condition. -/
import Derived.Test.YtpkaejacnblplaaEnd
import Derived.Test.YtpkaejacnblplaaLAppend
namespace Go.Proofs.Ytpkaejacnblplaa.labelFinds
open Go.RowKit Go.Proofs.Ytpkaejacnblplaa.Args Go.Proofs.Ytpkaejacnblplaa.Label

/-- In keys that rise each is found by its own key. -/
theorem find_own : ∀ (ls : List Pr), (ls.Pairwise fun x y => less x.1 y.1 = true) → ∀ x ∈ ls, findL ls x.1 = some x.2
  | [], _, x, h => by simp at h
  | a :: r, hp, x, h => by
    rw [List.pairwise_cons] at hp
    unfold findL
    rw [List.find?_cons]
    rcases List.mem_cons.1 h with rfl | h
    · simp
    · have hne : (a.1.toList == x.1.toList) = false := by
        have := less_ne (hp.1 x h)
        rw [beq_eq_false_iff_ne] at this ⊢
        exact fun e => this e.symm
      rw [hne]
      exact find_own r hp.2 x h
theorem find_any_iff (ls : List Pr) (key : ByteArray) : (findL ls key).isSome = ls.any fun x => x.1.toList == key.toList := by
  unfold findL
  rw [Option.isSome_map, Bool.eq_iff_iff, List.find?_isSome, List.any_eq_true]
theorem twice_not {ls : List Pr} {x : Pr} {n : Nat} (hn : ls.length = n + 1) (hx : ls[n]? = some x) : rightL (ls ++ [x]) = false := by
  cases h : rightL (ls ++ [x]) with
  | false => rfl
  | true =>
    have := (rightL_parts h).2.2 n x x (by rw [List.getElem?_append_left (by omega)]; exact hx) (by rw [List.getElem?_append_right (by omega), hn]; simp)
    rw [less_irrefl] at this
    cases this
theorem turned_is {h : Pr} {r : List Pr} (hp : (h :: r).Pairwise fun x y => less x.1 y.1 = true) (hr : rightL (h :: r) = true) : rightL (r ++ [h]) = decide (r.length + 1 = 1) := by
  cases r with
  | nil => exact hr
  | cons y s =>
    rw [decide_eq_false (by simp)]
    cases hh : rightL (y :: s ++ [h]) with
    | false => rfl
    | true =>
      rw [List.pairwise_cons] at hp
      obtain ⟨z, hz⟩ : ∃ z, (y :: s)[s.length]? = some z := ⟨_, List.getElem?_eq_getElem (by simp)⟩
      have h1 := (rightL_parts hh).2.2 s.length z h (by rw [List.getElem?_append_left (by simp)]; exact hz) (by rw [List.getElem?_append_right (by simp)]; simp)
      have h2 := hp.1 z (List.mem_of_getElem? hz)
      have h3 := less_swo.trans z h z h1 h2
      rw [less_swo.irrefl] at h3
      cases h3
theorem far_lt (w : World) (x : Obj) (j : Nat) : ((⟨w.heap.size, 0, none⟩ : Addr).add j).block < (World.alloc w.drew x).heap.size := by
  rw [Addr.add_lit, World.size_alloc]
  exact Nat.lt_succ_self _
theorem made_pairL (bs : List UInt8) : (madeL bs).Pairwise fun x y => less x.1 y.1 = true := made_pair bs _ (by omega)

set_option maxRecDepth 100000 in
set_option maxHeartbeats 4000000 in
theorem walk (v : Value) (bs : List UInt8) (t : ByteArray) (_ht : t.size ≤ 140737488351232) (w : World) (hv : Bytes w v bs) :
    Calls Try.prog 5 #[v, .string t] w fun e w' => e = .returned (.bool true) ∧ Below w.heap.size w w' := by
  have HV := Lib.hid hv
  have hr := made_right bs
  have hp := made_pairL bs
  obtain ⟨A, hA⟩ : ∃ A, A = madeL bs := ⟨_, rfl⟩
  have HM : Hid (∀ w1, Below w.heap.size w w1 → Calls Try.prog 24 #[v] w1 fun e w' => (∃ u, e = .returned u ∧ Row w' u A) ∧ Below w1.heap.size w1 w') := Lib.hid fun w1 hb => by rw [hA]; exact made_any v bs w1 (HV.out.below hb)
  rw [← hA] at hr hp
  have h8 := (rightL_parts hr).1
  have HR := Lib.hid hr
  have HP := Lib.hid hp
  have HF : Hid (∀ u w1 w2 key, Row w1 u A → Below w1.heap.size w1 w2 → Calls Try.prog 11 #[u, .string key] w2 fun e w' => e = .returned (found (findL A key)) ∧ Below w2.heap.size w2 w') := Lib.hid fun u w1 w2 key h hb => find_any u A key w2 (h.below hb) (by omega)
  clear hA hr hv hp
  go_enter Try.func5, Try.ntmps5
  go_wp2_with fail
  refine (examples_any _).mono ?_
  rintro e w1 ⟨rfl, hw1⟩
  go_wp2_with fail
  refine (HM.out _ hw1).mono ?_
  rintro e w2 ⟨⟨u, rfl, hu⟩, hw2⟩
  have hb := grows hw1 hw2
  obtain ⟨ad, cap, rfl⟩ := hu.slice
  have HU := Lib.hid hu
  clear hw1 hw2 hu
  go_wp2_with fail
  go_loopw [7, 8] (fun m i wr => ∃ k : Nat, k ≤ A.length ∧ i = .int .i64 k ∧ m = .bool ((A.take k).any fun x => x.1.toList == t.toList) ∧ Below w2.heap.size w2 wr) (fun _ i _ => A.length - (intOf i).toNat)
  case atStart => exact ⟨0, Nat.zero_le _, rfl, rfl, Below.refl _ _⟩
  case round =>
    obtain ⟨k, hk, rfl, rfl, hbr⟩ := hrel
    by_cases hlt : k < A.length
    · have hltz : (k : Int) < (A.length : Int) := by omega
      have hk0 : (0 : Int) ≤ (k : Int) := by omega
      obtain ⟨g, o, rfl, hg, hc⟩ := HU.out.cells hlt
      obtain ⟨x, hx⟩ : ∃ x, A[k]? = some x := ⟨_, List.getElem?_eq_getElem hlt⟩
      obtain ⟨c1, c2⟩ := hc.below hg hbr k x hx
      have HT : Hid (A.take (k + 1) = A.take k ++ [x]) := Lib.hid (by rw [List.take_add_one, hx]; rfl)
      have hfx := find_own A HP.out x (List.mem_of_getElem? hx)
      have HFx : Hid (Calls Try.prog 11 #[.slice (some ⟨g, o, none⟩) A.length cap, .string x.1] wr fun e w' => e = .returned (.tuple #[.string x.2, .bool true]) ∧ Below wr.heap.size wr w') := Lib.hid (by
        have := HF.out _ _ _ x.1 HU.out hbr
        rw [hfx] at this
        exact this)
      have HCx := Lib.hid hc
      have HX := Lib.hid hx
      clear hc hfx hx
      obtain ⟨x1, x2⟩ := x
      have he2 : (x2.toList == x2.toList) = true := by simp
      obtain ⟨q, hq⟩ : ∃ q, ((A.take k).any fun x => x.1.toList == t.toList) = q := ⟨_, rfl⟩
      obtain ⟨p, hp⟩ : ∃ p, (x1.toList == t.toList) = p := ⟨_, rfl⟩
      have HN : Hid (((A.take (k + 1)).any fun x => x.1.toList == t.toList) = (q || p)) := Lib.hid (by rw [HT.out, List.any_append, hq, ← hp]; simp)
      rw [hq]
      clear hq
      go_wp2_with fail
      refine HFx.out.mono ?_
      rintro e w4 ⟨rfl, hw4⟩
      have hbr4 := grows hbr hw4
      obtain ⟨d1, d2⟩ := HCx.out.below hg hbr4 k (x1, x2) HX.out
      clear hw4
      cases q with
      | true =>
        go_wp2
        go_roundw
        case rel => exact ⟨k + 1, by omega, by go_num, by rw [HN.out]; rfl, hbr4⟩
        case measure => simp [intOf]; omega
      | false =>
        go_wp2
        go_roundw
        case rel => exact ⟨k + 1, by omega, by go_num, by rw [HN.out]; rfl, hbr4⟩
        case measure => simp [intOf]; omega
    · obtain rfl : k = A.length := by omega
      have HB2 := Lib.hid (grows hb hbr)
      have HU2 := Lib.hid (HU.out.below hbr)
      have hci := find_any_iff A t
      obtain ⟨r, hr⟩ : ∃ r, findL A t = r := ⟨_, rfl⟩
      have HFt : Hid (Calls Try.prog 11 #[.slice ad A.length cap, .string t] wr fun e w' => e = .returned (found r) ∧ Below wr.heap.size wr w') := Lib.hid (by
        rw [← hr]
        exact HF.out _ _ _ t HU2.out (Below.refl _ _))
      rw [List.take_length, ← hci, hr]
      clear hci hr hb hbr HF HU HM
      have hemp : ((⟨#[]⟩ : ByteArray).toList == ([] : List UInt8)) = true := by rw [Lib.toList_data]; rfl
      cases r with
      | none =>
        have HFt' : Hid (Calls Try.prog 11 #[.slice ad A.length cap, .string t] wr fun e w' => e = .returned (.tuple #[.string ⟨#[]⟩, .bool false]) ∧ Below wr.heap.size wr w') := HFt
        go_wp2_with fail
        refine HFt'.out.mono ?_
        rintro e W ⟨rfl, hW⟩
        have HB := Lib.hid (grows HB2.out hW)
        have HUW := Lib.hid (HU2.out.below hW)
        clear HB2 HU2 hW HFt HFt'
        cases hn : A.length with
        | zero =>
          go_wp2
          go_ret
          exact ⟨rfl, HB.out⟩
        | succ n =>
          rw [hn] at h8
          obtain ⟨i0, hi, hz0, hz1, hz2⟩ := info_parts infoP
          obtain ⟨z, rs, hA⟩ : ∃ z rs, A = z :: rs := by cases A with
            | nil => simp at hn
            | cons a b => exact ⟨a, b, rfl⟩
          have hrs : rs.length = n := by rw [hA] at hn; simpa using hn
          obtain ⟨y0, hy0⟩ : ∃ y, A[n]? = some y := ⟨_, List.getElem?_eq_getElem (by omega)⟩
          obtain ⟨g, o, hadz, hg, hc, hcap, hcm⟩ : ∃ g o, ad = some ⟨g, o, none⟩ ∧ g < W.heap.size ∧ Cells W g o A ∧ n + 1 ≤ cap ∧ cap ≤ maxLen := by
            rcases HUW.out with ⟨h, _⟩ | ⟨_, g, o, cap', hsl, hg, hcap, hcm, hcell⟩
            · rw [h] at hn; simp at hn
            · injection hsl with h1 _ h3
              exact ⟨g, o, h1, hg, hcell, by omega, by omega⟩
          subst hadz
          have HR1 : Hid (∀ v w1 w2, Row w1 v (A ++ [y0]) → Below w1.heap.size w1 w2 → Calls Try.prog 18 #[v] w2 fun e w' => e = .returned (.bool false) ∧ Below w2.heap.size w2 w') := Lib.hid fun v w1 w2 h hb => by
            rw [← twice_not hn hy0]
            exact right_rows v _ w2 (h.below hb) (by rw [List.length_append, hn]; simp; omega)
          have HR2 : Hid (∀ v w1 w2, Row w1 v (rs ++ [z]) → Below w1.heap.size w1 w2 → Calls Try.prog 18 #[v] w2 fun e w' => e = .returned (.bool (decide (n + 1 = 1))) ∧ Below w2.heap.size w2 w') := Lib.hid fun v w1 w2 h hb => by
            have ht := turned_is (h := z) (r := rs) (by rw [← hA]; exact HP.out) (by rw [← hA]; exact HR.out)
            rw [hrs] at ht
            rw [← ht]
            exact right_rows v _ w2 (h.below hb) (by rw [List.length_append, hrs]; simp; omega)
          have HNw : Hid (∀ x, Below W.heap.size W x → ∀ j u, (A.flatMap enc)[j]? = some u → x.cell? ((⟨g, o, none⟩ : Addr).add j) = some u) := Lib.hid fun x hx => (hc.below hg hx).news
          have HNt : Hid (∀ x, Below W.heap.size W x → ∀ j u, (rs.flatMap enc)[j]? = some u → x.cell? ((⟨g, o + 2, none⟩ : Addr).add j) = some u) := Lib.hid fun x hx => by
            have := hc.below hg hx
            rw [hA] at this
            exact this.tail.news
          have HNt0 : Hid (cap = 1 → ∀ x : World, Below W.heap.size W x → ∀ j u, (rs.flatMap enc)[j]? = some u → x.cell? ((⟨g, o, none⟩ : Addr).add j) = some u) := Lib.hid fun h1 x _ j u hj => by
            obtain rfl : rs = [] := List.eq_nil_of_length_eq_zero (by omega)
            simp at hj
          have HK : Hid (∀ x, Below W.heap.size W x → x.cell? ⟨g, o + n * 2, none⟩ = some (.string y0.1) ∧ x.cell? ⟨g, o + n * 2 + 1, none⟩ = some (.string y0.2)) := Lib.hid fun x hx => hc.below hg hx n y0 hy0
          have HK2 : Hid (∀ x, Below W.heap.size W x → x.cell? ⟨g, o, none⟩ = some (.string z.1) ∧ x.cell? ⟨g, o + 1, none⟩ = some (.string z.2)) := Lib.hid fun x hx => by
            have := hc.below hg hx 0 z (by rw [hA]; rfl)
            simpa using this
          have HL1 : Hid ((A.flatMap enc).length = (n + 1) * 2) := Lib.hid (by rw [fm_len, hn])
          have HL2 : Hid ((rs.flatMap enc).length = n * 2) := Lib.hid (by rw [fm_len, hrs])
          have HO1 := Lib.hid (fm_one A)
          have HO2 := Lib.hid (fm_one rs)
          have HS1 : Hid (∀ w v, w.ownsRow W.heap.size 48 2 v (0 + (n + 1) + 1) ([] ++ A.flatMap enc ++ [.string y0.1, .string y0.2]) → Row w v (A ++ [y0])) := Lib.hid fun w v h => row_of_own h (by rw [List.length_append, hn]; simp) (by rw [fm_snoc]; simp)
          have HS2 : Hid (∀ B w v, w.ownsRow B 48 2 v (0 + n + 1) ([] ++ rs.flatMap enc ++ [.string z.1, .string z.2]) → Row w v (rs ++ [z])) := Lib.hid fun B w v h => row_of_own h (by rw [List.length_append, hrs]; simp) (by rw [fm_snoc]; simp)
          have HS3 : Hid (cap = 1 → ∀ B w v, w.ownsRow B 48 2 v (0 + 1) ([] ++ [.string z.1, .string z.2]) → Row w v (rs ++ [z])) := Lib.hid fun h1 B w v h => by
            obtain rfl : rs = [] := List.eq_nil_of_length_eq_zero (by omega)
            exact row_of_own h rfl rfl
          have HZ1 : Hid (0 + (n + 1) ≤ maxLen ∧ (0 + (n + 1)) * 32 ≤ 140737488355328 ∧ 0 + (n + 1) + 1 ≤ maxLen ∧ (0 + (n + 1) + 1) * 32 ≤ 140737488355328) := Lib.hid (by unfold maxLen; omega)
          have HZ2 : Hid (0 + n ≤ maxLen ∧ (0 + n) * 32 ≤ 140737488355328 ∧ 0 + n + 1 ≤ maxLen ∧ (0 + n + 1) * 32 ≤ 140737488355328) := Lib.hid (by unfold maxLen; omega)
          obtain ⟨y1, y2⟩ := y0
          obtain ⟨z1, z2⟩ := z
          simp only at HK HK2 HS1 HS2 HS3
          have HTwo : Hid (∀ a b : ByteArray, ∀ u ∈ [Value.string a, .string b], u.oneCell' = true) := Lib.hid fun a b u hu => by simp at hu; rcases hu with rfl | rfl <;> rfl
          have hn0 : (0 : Int) ≤ (n : Int) := by omega
          have hn1 : (n : Int) < (n : Int) + 1 := by omega
          have hc1 : (n : Int) + 1 ≤ (cap : Int) := by omega
          have hc2 : (1 : Int) ≤ (n : Int) + 1 := by omega
          have hc3 : (1 : Int) ≤ (cap : Int) := by omega
          have hc4 : (0 : Int) < (n : Int) + 1 := by omega
          have hwr1 : IntKind.i64.wrap (n : Int) = (n : Int) := by rw [IntKind.wrap_i64]; omega
          have hwr2 : IntKind.i64.wrap ((n : Int) + 1 - 1) = (n : Int) := by rw [Int.add_sub_cancel]; exact hwr1
          have hbW : Below W.heap.size W W := Below.refl _ _
          clear hc hy0 hA hrs hn HUW HR HP
          go_wp2_with fail
          have hs5 : Below W.heap.size W W.drew := (Below.refl _ _).drew
          have hs5a : Below W.heap.size W (World.alloc W.drew (.cells #[.string y1, .string y2] 48)) := hs5.alloc hs5.size _
          go_region_held3 (fun x => x.cell? ⟨g, o + n * 2, none⟩ = some (.string y1) ∧ x.cell? ⟨g, o + n * 2 + 1, none⟩ = some (.string y2))
            (first | exact HK.out _ (hbW.trans ((hs5).mono hbW.size)) | exact HK.out _ (hbW.trans ((hs5a).mono hbW.size)) | exact HK.out _ (hbW.trans ((b5).mono hbW.size)) | exact HK.out _ (hbW.trans ((b5.alloc b5.size _).mono hbW.size)) | exact HK.out _ (hbW.trans ((b5').mono hbW.size)))
            (first | (refine step_own _ rfl _ _ 22 rfl W.heap.size 48 i0 (.agg #[.string ByteArray.empty, .string ByteArray.empty]) 2 32 Try.underlying22 hi hz0 hz1 hz2 rfl (by decide) (.slice none 0 0) 0 [] rfl (World.ownsRow_nil _ _ _ _) ⟨g, o, none⟩ (n + 1) cap (A.flatMap enc) rfl HL1.out (HNw.out _ (hbW.trans (hs5.mono hbW.size))) HO1.out HZ1.out.1 HZ1.out.2.1 hs5.size ?_; intro v5 w5 hown5 hgr5; have b5 : Below W.heap.size W w5 := hs5.grown hgr5 hs5.size (fun k hk => by cases hk)) | (refine step_own _ rfl _ _ 22 rfl W.heap.size 48 i0 (.agg #[.string ByteArray.empty, .string ByteArray.empty]) 2 32 Try.underlying22 hi hz0 hz1 hz2 rfl (by decide) (.slice none 0 0) 0 [] rfl (World.ownsRow_nil _ _ _ _) ⟨g, o, none⟩ (n + 1) cap (A.flatMap enc) rfl HL1.out (HNw.out _ (hbW.trans (hs5a.mono hbW.size))) HO1.out HZ1.out.1 HZ1.out.2.1 hs5a.size ?_; intro v5 w5 hown5 hgr5; have b5 : Below W.heap.size W w5 := hs5a.grown hgr5 hs5a.size (fun k hk => by cases hk)) | (refine step_own _ rfl _ _ 22 rfl W.heap.size 48 i0 (.agg #[.string ByteArray.empty, .string ByteArray.empty]) 2 32 Try.underlying22 hi hz0 hz1 hz2 rfl (by decide) v5 _ _ rfl (hown5.alloc _) ⟨w5.heap.size, 0, none⟩ 1 1 [.string y1, .string y2] rfl rfl (new_two w5 _ _) (HTwo.out _ _) HZ1.out.2.2.1 HZ1.out.2.2.2 (by rw [World.size_alloc]; have := b5.size; omega) ?_; intro v5' w5' hown5' hgr5'; have b5' : Below W.heap.size W w5' := (b5.alloc b5.size _).grown hgr5' (by rw [World.size_alloc]; have := b5.size; omega) (fun k hk => (hown5.lt k hk).1)) | (refine step_own _ rfl _ _ 22 rfl W.heap.size 48 i0 (.agg #[.string ByteArray.empty, .string ByteArray.empty]) 2 32 Try.underlying22 hi hz0 hz1 hz2 rfl (by decide) v5 _ _ rfl hown5 ⟨W.heap.size, 0, none⟩ 1 1 [.string y1, .string y2] rfl rfl (fun j u hj => (hgr5.cell_far _ (far_lt _ _ j) (fun h => by cases h)).trans (new_two W.drew _ _ j u hj)) (HTwo.out _ _) HZ1.out.2.2.1 HZ1.out.2.2.2 b5.size ?_; intro v5' w5' hown5' hgr5'; have b5' : Below W.heap.size W w5' := b5.grown hgr5' b5.size (fun k hk => (hown5.lt k hk).1)))
          all_goals
            have HRow := Lib.hid (HS1.out _ _ hown5')
            clear hown5' hgr5' hgr5 hown5 HNw HK HL1 HO1 HS1 HZ1 hs5 hs5a b5
            by_cases hcap1 : cap = 1
            · subst hcap1
              go_wp2_with fail
              have hs7 : Below w5'.heap.size w5' w5'.drew := (Below.refl _ _).drew
              have hs7a : Below w5'.heap.size w5' (World.alloc w5'.drew (.cells #[.string z1, .string z2] 48)) := hs7.alloc hs7.size _
              go_region_held3 (fun x => x.cell? ⟨g, o, none⟩ = some (.string z1) ∧ x.cell? ⟨g, o + 1, none⟩ = some (.string z2))
                (first | exact HK2.out _ (b5'.trans ((hs7).mono b5'.size)) | exact HK2.out _ (b5'.trans ((hs7a).mono b5'.size)) | exact HK2.out _ (b5'.trans ((b7').mono b5'.size)))
                (first | (refine step_own _ rfl _ _ 22 rfl w5'.heap.size 48 i0 (.agg #[.string ByteArray.empty, .string ByteArray.empty]) 2 32 Try.underlying22 hi hz0 hz1 hz2 rfl (by decide) (.slice none 0 0) 0 [] rfl (World.ownsRow_nil _ _ _ _) ⟨w5'.heap.size, 0, none⟩ 1 1 [.string z1, .string z2] rfl rfl (new_two w5'.drew _ _) (HTwo.out _ _) (by decide) (by decide) hs7a.size ?_; intro v7' w7' hown7' hgr7'; have b7' : Below w5'.heap.size w5' w7' := hs7a.grown hgr7' hs7a.size (fun k hk => by cases hk)))
              all_goals
                have HRow' := Lib.hid (HS3.out (by trivial) _ _ _ hown7')
                have HRow1 := Lib.hid (HRow.out.below b7')
                have hbF := HB.out.trans ((b5'.trans (b7'.mono b5'.size)).mono HB.out.size)
                clear hown7' hgr7' HNt HNt0 HK2 HL2 HO2 HS2 HS3 HZ2 hs7 hs7a b7' b5' HRow HB
                have hd1 : ((n : Int) + 1 == 1) = decide (n + 1 = 1) := by rw [Bool.eq_iff_iff, beq_iff_eq, decide_eq_true_eq]; omega
                obtain ⟨q, hq⟩ : ∃ q, decide (n + 1 = 1) = q := ⟨_, rfl⟩
                rw [hq] at HR2 hd1
                have hqq : (q == q) = true := by simp
                clear hq
                go_wp2_with fail
                refine (HR1.out _ _ _ HRow1.out (Below.refl _ _)).mono ?_
                rintro e w9 ⟨rfl, hw9⟩
                go_wp2_with fail
                refine (HR2.out _ _ _ HRow'.out hw9).mono ?_
                rintro e w10 ⟨rfl, hw10⟩
                have hF := grows hbF (grows hw9 hw10)
                go_wp2
                go_ret
                exact ⟨rfl, hF⟩
            · have hcap2 : ¬ (1 = cap) := fun h => hcap1 h.symm
              go_wp2_with fail
              have hs7 : Below w5'.heap.size w5' w5'.drew := (Below.refl _ _).drew
              have hs7a : Below w5'.heap.size w5' (World.alloc w5'.drew (.cells #[.string z1, .string z2] 48)) := hs7.alloc hs7.size _
              go_region_held3 (fun x => x.cell? ⟨g, o, none⟩ = some (.string z1) ∧ x.cell? ⟨g, o + 1, none⟩ = some (.string z2))
                (first | exact HK2.out _ (b5'.trans ((hs7).mono b5'.size)) | exact HK2.out _ (b5'.trans ((hs7a).mono b5'.size)) | exact HK2.out _ (b5'.trans ((b7).mono b5'.size)) | exact HK2.out _ (b5'.trans ((b7.alloc b7.size _).mono b5'.size)) | exact HK2.out _ (b5'.trans ((b7').mono b5'.size)))
                (first | (refine step_own _ rfl _ _ 22 rfl w5'.heap.size 48 i0 (.agg #[.string ByteArray.empty, .string ByteArray.empty]) 2 32 Try.underlying22 hi hz0 hz1 hz2 rfl (by decide) (.slice none 0 0) 0 [] rfl (World.ownsRow_nil _ _ _ _) ⟨g, o + 2, none⟩ n (cap - 1) (rs.flatMap enc) rfl HL2.out (HNt.out _ (b5'.trans (hs7.mono b5'.size))) HO2.out HZ2.out.1 HZ2.out.2.1 hs7.size ?_; intro v7 w7 hown7 hgr7; have b7 : Below w5'.heap.size w5' w7 := hs7.grown hgr7 hs7.size (fun k hk => by cases hk)) | (refine step_own _ rfl _ _ 22 rfl w5'.heap.size 48 i0 (.agg #[.string ByteArray.empty, .string ByteArray.empty]) 2 32 Try.underlying22 hi hz0 hz1 hz2 rfl (by decide) (.slice none 0 0) 0 [] rfl (World.ownsRow_nil _ _ _ _) ⟨g, o + 2, none⟩ n (cap - 1) (rs.flatMap enc) rfl HL2.out (HNt.out _ (b5'.trans (hs7a.mono b5'.size))) HO2.out HZ2.out.1 HZ2.out.2.1 hs7a.size ?_; intro v7 w7 hown7 hgr7; have b7 : Below w5'.heap.size w5' w7 := hs7a.grown hgr7 hs7a.size (fun k hk => by cases hk)) | (refine step_own _ rfl _ _ 22 rfl w5'.heap.size 48 i0 (.agg #[.string ByteArray.empty, .string ByteArray.empty]) 2 32 Try.underlying22 hi hz0 hz1 hz2 rfl (by decide) v7 _ _ rfl (hown7.alloc _) ⟨w7.heap.size, 0, none⟩ 1 1 [.string z1, .string z2] rfl rfl (new_two w7 _ _) (HTwo.out _ _) HZ2.out.2.2.1 HZ2.out.2.2.2 (by rw [World.size_alloc]; have := b7.size; omega) ?_; intro v7' w7' hown7' hgr7'; have b7' : Below w5'.heap.size w5' w7' := (b7.alloc b7.size _).grown hgr7' (by rw [World.size_alloc]; have := b7.size; omega) (fun k hk => (hown7.lt k hk).1)) | (refine step_own _ rfl _ _ 22 rfl w5'.heap.size 48 i0 (.agg #[.string ByteArray.empty, .string ByteArray.empty]) 2 32 Try.underlying22 hi hz0 hz1 hz2 rfl (by decide) v7 _ _ rfl hown7 ⟨w5'.heap.size, 0, none⟩ 1 1 [.string z1, .string z2] rfl rfl (fun j u hj => (hgr7.cell_far _ (far_lt _ _ j) (fun h => by cases h)).trans (new_two w5'.drew _ _ j u hj)) (HTwo.out _ _) HZ2.out.2.2.1 HZ2.out.2.2.2 b7.size ?_; intro v7' w7' hown7' hgr7'; have b7' : Below w5'.heap.size w5' w7' := b7.grown hgr7' b7.size (fun k hk => (hown7.lt k hk).1)))
              all_goals
                have HRow' := Lib.hid (HS2.out _ _ _ hown7')
                have HRow1 := Lib.hid (HRow.out.below b7')
                have hbF := HB.out.trans ((b5'.trans (b7'.mono b5'.size)).mono HB.out.size)
                clear hown7' hgr7' hgr7 hown7 HNt HNt0 HK2 HL2 HO2 HS2 HS3 HZ2 hs7 hs7a b7 b7' b5' HRow HB
                have hd1 : ((n : Int) + 1 == 1) = decide (n + 1 = 1) := by rw [Bool.eq_iff_iff, beq_iff_eq, decide_eq_true_eq]; omega
                obtain ⟨q, hq⟩ : ∃ q, decide (n + 1 = 1) = q := ⟨_, rfl⟩
                rw [hq] at HR2 hd1
                have hqq : (q == q) = true := by simp
                clear hq
                go_wp2_with fail
                refine (HR1.out _ _ _ HRow1.out (Below.refl _ _)).mono ?_
                rintro e w9 ⟨rfl, hw9⟩
                go_wp2_with fail
                refine (HR2.out _ _ _ HRow'.out hw9).mono ?_
                rintro e w10 ⟨rfl, hw10⟩
                have hF := grows hbF (grows hw9 hw10)
                go_wp2
                go_ret
                exact ⟨rfl, hF⟩
      | some y =>
        have HFt' : Hid (Calls Try.prog 11 #[.slice ad A.length cap, .string t] wr fun e w' => e = .returned (.tuple #[.string y, .bool true]) ∧ Below wr.heap.size wr w') := HFt
        go_wp2_with fail
        refine HFt'.out.mono ?_
        rintro e W ⟨rfl, hW⟩
        have HB := Lib.hid (grows HB2.out hW)
        have HUW := Lib.hid (HU2.out.below hW)
        clear HB2 HU2 hW HFt HFt'
        cases hn : A.length with
        | zero =>
          go_wp2
          go_ret
          exact ⟨rfl, HB.out⟩
        | succ n =>
          rw [hn] at h8
          obtain ⟨i0, hi, hz0, hz1, hz2⟩ := info_parts infoP
          obtain ⟨z, rs, hA⟩ : ∃ z rs, A = z :: rs := by cases A with
            | nil => simp at hn
            | cons a b => exact ⟨a, b, rfl⟩
          have hrs : rs.length = n := by rw [hA] at hn; simpa using hn
          obtain ⟨y0, hy0⟩ : ∃ y, A[n]? = some y := ⟨_, List.getElem?_eq_getElem (by omega)⟩
          obtain ⟨g, o, hadz, hg, hc, hcap, hcm⟩ : ∃ g o, ad = some ⟨g, o, none⟩ ∧ g < W.heap.size ∧ Cells W g o A ∧ n + 1 ≤ cap ∧ cap ≤ maxLen := by
            rcases HUW.out with ⟨h, _⟩ | ⟨_, g, o, cap', hsl, hg, hcap, hcm, hcell⟩
            · rw [h] at hn; simp at hn
            · injection hsl with h1 _ h3
              exact ⟨g, o, h1, hg, hcell, by omega, by omega⟩
          subst hadz
          have HR1 : Hid (∀ v w1 w2, Row w1 v (A ++ [y0]) → Below w1.heap.size w1 w2 → Calls Try.prog 18 #[v] w2 fun e w' => e = .returned (.bool false) ∧ Below w2.heap.size w2 w') := Lib.hid fun v w1 w2 h hb => by
            rw [← twice_not hn hy0]
            exact right_rows v _ w2 (h.below hb) (by rw [List.length_append, hn]; simp; omega)
          have HR2 : Hid (∀ v w1 w2, Row w1 v (rs ++ [z]) → Below w1.heap.size w1 w2 → Calls Try.prog 18 #[v] w2 fun e w' => e = .returned (.bool (decide (n + 1 = 1))) ∧ Below w2.heap.size w2 w') := Lib.hid fun v w1 w2 h hb => by
            have ht := turned_is (h := z) (r := rs) (by rw [← hA]; exact HP.out) (by rw [← hA]; exact HR.out)
            rw [hrs] at ht
            rw [← ht]
            exact right_rows v _ w2 (h.below hb) (by rw [List.length_append, hrs]; simp; omega)
          have HNw : Hid (∀ x, Below W.heap.size W x → ∀ j u, (A.flatMap enc)[j]? = some u → x.cell? ((⟨g, o, none⟩ : Addr).add j) = some u) := Lib.hid fun x hx => (hc.below hg hx).news
          have HNt : Hid (∀ x, Below W.heap.size W x → ∀ j u, (rs.flatMap enc)[j]? = some u → x.cell? ((⟨g, o + 2, none⟩ : Addr).add j) = some u) := Lib.hid fun x hx => by
            have := hc.below hg hx
            rw [hA] at this
            exact this.tail.news
          have HNt0 : Hid (cap = 1 → ∀ x : World, Below W.heap.size W x → ∀ j u, (rs.flatMap enc)[j]? = some u → x.cell? ((⟨g, o, none⟩ : Addr).add j) = some u) := Lib.hid fun h1 x _ j u hj => by
            obtain rfl : rs = [] := List.eq_nil_of_length_eq_zero (by omega)
            simp at hj
          have HK : Hid (∀ x, Below W.heap.size W x → x.cell? ⟨g, o + n * 2, none⟩ = some (.string y0.1) ∧ x.cell? ⟨g, o + n * 2 + 1, none⟩ = some (.string y0.2)) := Lib.hid fun x hx => hc.below hg hx n y0 hy0
          have HK2 : Hid (∀ x, Below W.heap.size W x → x.cell? ⟨g, o, none⟩ = some (.string z.1) ∧ x.cell? ⟨g, o + 1, none⟩ = some (.string z.2)) := Lib.hid fun x hx => by
            have := hc.below hg hx 0 z (by rw [hA]; rfl)
            simpa using this
          have HL1 : Hid ((A.flatMap enc).length = (n + 1) * 2) := Lib.hid (by rw [fm_len, hn])
          have HL2 : Hid ((rs.flatMap enc).length = n * 2) := Lib.hid (by rw [fm_len, hrs])
          have HO1 := Lib.hid (fm_one A)
          have HO2 := Lib.hid (fm_one rs)
          have HS1 : Hid (∀ w v, w.ownsRow W.heap.size 48 2 v (0 + (n + 1) + 1) ([] ++ A.flatMap enc ++ [.string y0.1, .string y0.2]) → Row w v (A ++ [y0])) := Lib.hid fun w v h => row_of_own h (by rw [List.length_append, hn]; simp) (by rw [fm_snoc]; simp)
          have HS2 : Hid (∀ B w v, w.ownsRow B 48 2 v (0 + n + 1) ([] ++ rs.flatMap enc ++ [.string z.1, .string z.2]) → Row w v (rs ++ [z])) := Lib.hid fun B w v h => row_of_own h (by rw [List.length_append, hrs]; simp) (by rw [fm_snoc]; simp)
          have HS3 : Hid (cap = 1 → ∀ B w v, w.ownsRow B 48 2 v (0 + 1) ([] ++ [.string z.1, .string z.2]) → Row w v (rs ++ [z])) := Lib.hid fun h1 B w v h => by
            obtain rfl : rs = [] := List.eq_nil_of_length_eq_zero (by omega)
            exact row_of_own h rfl rfl
          have HZ1 : Hid (0 + (n + 1) ≤ maxLen ∧ (0 + (n + 1)) * 32 ≤ 140737488355328 ∧ 0 + (n + 1) + 1 ≤ maxLen ∧ (0 + (n + 1) + 1) * 32 ≤ 140737488355328) := Lib.hid (by unfold maxLen; omega)
          have HZ2 : Hid (0 + n ≤ maxLen ∧ (0 + n) * 32 ≤ 140737488355328 ∧ 0 + n + 1 ≤ maxLen ∧ (0 + n + 1) * 32 ≤ 140737488355328) := Lib.hid (by unfold maxLen; omega)
          obtain ⟨y1, y2⟩ := y0
          obtain ⟨z1, z2⟩ := z
          simp only at HK HK2 HS1 HS2 HS3
          have HTwo : Hid (∀ a b : ByteArray, ∀ u ∈ [Value.string a, .string b], u.oneCell' = true) := Lib.hid fun a b u hu => by simp at hu; rcases hu with rfl | rfl <;> rfl
          have hn0 : (0 : Int) ≤ (n : Int) := by omega
          have hn1 : (n : Int) < (n : Int) + 1 := by omega
          have hc1 : (n : Int) + 1 ≤ (cap : Int) := by omega
          have hc2 : (1 : Int) ≤ (n : Int) + 1 := by omega
          have hc3 : (1 : Int) ≤ (cap : Int) := by omega
          have hc4 : (0 : Int) < (n : Int) + 1 := by omega
          have hwr1 : IntKind.i64.wrap (n : Int) = (n : Int) := by rw [IntKind.wrap_i64]; omega
          have hwr2 : IntKind.i64.wrap ((n : Int) + 1 - 1) = (n : Int) := by rw [Int.add_sub_cancel]; exact hwr1
          have hbW : Below W.heap.size W W := Below.refl _ _
          clear hc hy0 hA hrs hn HUW HR HP
          go_wp2_with fail
          have hs5 : Below W.heap.size W W.drew := (Below.refl _ _).drew
          have hs5a : Below W.heap.size W (World.alloc W.drew (.cells #[.string y1, .string y2] 48)) := hs5.alloc hs5.size _
          go_region_held3 (fun x => x.cell? ⟨g, o + n * 2, none⟩ = some (.string y1) ∧ x.cell? ⟨g, o + n * 2 + 1, none⟩ = some (.string y2))
            (first | exact HK.out _ (hbW.trans ((hs5).mono hbW.size)) | exact HK.out _ (hbW.trans ((hs5a).mono hbW.size)) | exact HK.out _ (hbW.trans ((b5).mono hbW.size)) | exact HK.out _ (hbW.trans ((b5.alloc b5.size _).mono hbW.size)) | exact HK.out _ (hbW.trans ((b5').mono hbW.size)))
            (first | (refine step_own _ rfl _ _ 22 rfl W.heap.size 48 i0 (.agg #[.string ByteArray.empty, .string ByteArray.empty]) 2 32 Try.underlying22 hi hz0 hz1 hz2 rfl (by decide) (.slice none 0 0) 0 [] rfl (World.ownsRow_nil _ _ _ _) ⟨g, o, none⟩ (n + 1) cap (A.flatMap enc) rfl HL1.out (HNw.out _ (hbW.trans (hs5.mono hbW.size))) HO1.out HZ1.out.1 HZ1.out.2.1 hs5.size ?_; intro v5 w5 hown5 hgr5; have b5 : Below W.heap.size W w5 := hs5.grown hgr5 hs5.size (fun k hk => by cases hk)) | (refine step_own _ rfl _ _ 22 rfl W.heap.size 48 i0 (.agg #[.string ByteArray.empty, .string ByteArray.empty]) 2 32 Try.underlying22 hi hz0 hz1 hz2 rfl (by decide) (.slice none 0 0) 0 [] rfl (World.ownsRow_nil _ _ _ _) ⟨g, o, none⟩ (n + 1) cap (A.flatMap enc) rfl HL1.out (HNw.out _ (hbW.trans (hs5a.mono hbW.size))) HO1.out HZ1.out.1 HZ1.out.2.1 hs5a.size ?_; intro v5 w5 hown5 hgr5; have b5 : Below W.heap.size W w5 := hs5a.grown hgr5 hs5a.size (fun k hk => by cases hk)) | (refine step_own _ rfl _ _ 22 rfl W.heap.size 48 i0 (.agg #[.string ByteArray.empty, .string ByteArray.empty]) 2 32 Try.underlying22 hi hz0 hz1 hz2 rfl (by decide) v5 _ _ rfl (hown5.alloc _) ⟨w5.heap.size, 0, none⟩ 1 1 [.string y1, .string y2] rfl rfl (new_two w5 _ _) (HTwo.out _ _) HZ1.out.2.2.1 HZ1.out.2.2.2 (by rw [World.size_alloc]; have := b5.size; omega) ?_; intro v5' w5' hown5' hgr5'; have b5' : Below W.heap.size W w5' := (b5.alloc b5.size _).grown hgr5' (by rw [World.size_alloc]; have := b5.size; omega) (fun k hk => (hown5.lt k hk).1)) | (refine step_own _ rfl _ _ 22 rfl W.heap.size 48 i0 (.agg #[.string ByteArray.empty, .string ByteArray.empty]) 2 32 Try.underlying22 hi hz0 hz1 hz2 rfl (by decide) v5 _ _ rfl hown5 ⟨W.heap.size, 0, none⟩ 1 1 [.string y1, .string y2] rfl rfl (fun j u hj => (hgr5.cell_far _ (far_lt _ _ j) (fun h => by cases h)).trans (new_two W.drew _ _ j u hj)) (HTwo.out _ _) HZ1.out.2.2.1 HZ1.out.2.2.2 b5.size ?_; intro v5' w5' hown5' hgr5'; have b5' : Below W.heap.size W w5' := b5.grown hgr5' b5.size (fun k hk => (hown5.lt k hk).1)))
          all_goals
            have HRow := Lib.hid (HS1.out _ _ hown5')
            clear hown5' hgr5' hgr5 hown5 HNw HK HL1 HO1 HS1 HZ1 hs5 hs5a b5
            by_cases hcap1 : cap = 1
            · subst hcap1
              go_wp2_with fail
              have hs7 : Below w5'.heap.size w5' w5'.drew := (Below.refl _ _).drew
              have hs7a : Below w5'.heap.size w5' (World.alloc w5'.drew (.cells #[.string z1, .string z2] 48)) := hs7.alloc hs7.size _
              go_region_held3 (fun x => x.cell? ⟨g, o, none⟩ = some (.string z1) ∧ x.cell? ⟨g, o + 1, none⟩ = some (.string z2))
                (first | exact HK2.out _ (b5'.trans ((hs7).mono b5'.size)) | exact HK2.out _ (b5'.trans ((hs7a).mono b5'.size)) | exact HK2.out _ (b5'.trans ((b7').mono b5'.size)))
                (first | (refine step_own _ rfl _ _ 22 rfl w5'.heap.size 48 i0 (.agg #[.string ByteArray.empty, .string ByteArray.empty]) 2 32 Try.underlying22 hi hz0 hz1 hz2 rfl (by decide) (.slice none 0 0) 0 [] rfl (World.ownsRow_nil _ _ _ _) ⟨w5'.heap.size, 0, none⟩ 1 1 [.string z1, .string z2] rfl rfl (new_two w5'.drew _ _) (HTwo.out _ _) (by decide) (by decide) hs7a.size ?_; intro v7' w7' hown7' hgr7'; have b7' : Below w5'.heap.size w5' w7' := hs7a.grown hgr7' hs7a.size (fun k hk => by cases hk)))
              all_goals
                have HRow' := Lib.hid (HS3.out (by trivial) _ _ _ hown7')
                have HRow1 := Lib.hid (HRow.out.below b7')
                have hbF := HB.out.trans ((b5'.trans (b7'.mono b5'.size)).mono HB.out.size)
                clear hown7' hgr7' HNt HNt0 HK2 HL2 HO2 HS2 HS3 HZ2 hs7 hs7a b7' b5' HRow HB
                have hd1 : ((n : Int) + 1 == 1) = decide (n + 1 = 1) := by rw [Bool.eq_iff_iff, beq_iff_eq, decide_eq_true_eq]; omega
                obtain ⟨q, hq⟩ : ∃ q, decide (n + 1 = 1) = q := ⟨_, rfl⟩
                rw [hq] at HR2 hd1
                have hqq : (q == q) = true := by simp
                clear hq
                go_wp2_with fail
                refine (HR1.out _ _ _ HRow1.out (Below.refl _ _)).mono ?_
                rintro e w9 ⟨rfl, hw9⟩
                go_wp2_with fail
                refine (HR2.out _ _ _ HRow'.out hw9).mono ?_
                rintro e w10 ⟨rfl, hw10⟩
                have hF := grows hbF (grows hw9 hw10)
                go_wp2
                go_ret
                exact ⟨rfl, hF⟩
            · have hcap2 : ¬ (1 = cap) := fun h => hcap1 h.symm
              go_wp2_with fail
              have hs7 : Below w5'.heap.size w5' w5'.drew := (Below.refl _ _).drew
              have hs7a : Below w5'.heap.size w5' (World.alloc w5'.drew (.cells #[.string z1, .string z2] 48)) := hs7.alloc hs7.size _
              go_region_held3 (fun x => x.cell? ⟨g, o, none⟩ = some (.string z1) ∧ x.cell? ⟨g, o + 1, none⟩ = some (.string z2))
                (first | exact HK2.out _ (b5'.trans ((hs7).mono b5'.size)) | exact HK2.out _ (b5'.trans ((hs7a).mono b5'.size)) | exact HK2.out _ (b5'.trans ((b7).mono b5'.size)) | exact HK2.out _ (b5'.trans ((b7.alloc b7.size _).mono b5'.size)) | exact HK2.out _ (b5'.trans ((b7').mono b5'.size)))
                (first | (refine step_own _ rfl _ _ 22 rfl w5'.heap.size 48 i0 (.agg #[.string ByteArray.empty, .string ByteArray.empty]) 2 32 Try.underlying22 hi hz0 hz1 hz2 rfl (by decide) (.slice none 0 0) 0 [] rfl (World.ownsRow_nil _ _ _ _) ⟨g, o + 2, none⟩ n (cap - 1) (rs.flatMap enc) rfl HL2.out (HNt.out _ (b5'.trans (hs7.mono b5'.size))) HO2.out HZ2.out.1 HZ2.out.2.1 hs7.size ?_; intro v7 w7 hown7 hgr7; have b7 : Below w5'.heap.size w5' w7 := hs7.grown hgr7 hs7.size (fun k hk => by cases hk)) | (refine step_own _ rfl _ _ 22 rfl w5'.heap.size 48 i0 (.agg #[.string ByteArray.empty, .string ByteArray.empty]) 2 32 Try.underlying22 hi hz0 hz1 hz2 rfl (by decide) (.slice none 0 0) 0 [] rfl (World.ownsRow_nil _ _ _ _) ⟨g, o + 2, none⟩ n (cap - 1) (rs.flatMap enc) rfl HL2.out (HNt.out _ (b5'.trans (hs7a.mono b5'.size))) HO2.out HZ2.out.1 HZ2.out.2.1 hs7a.size ?_; intro v7 w7 hown7 hgr7; have b7 : Below w5'.heap.size w5' w7 := hs7a.grown hgr7 hs7a.size (fun k hk => by cases hk)) | (refine step_own _ rfl _ _ 22 rfl w5'.heap.size 48 i0 (.agg #[.string ByteArray.empty, .string ByteArray.empty]) 2 32 Try.underlying22 hi hz0 hz1 hz2 rfl (by decide) v7 _ _ rfl (hown7.alloc _) ⟨w7.heap.size, 0, none⟩ 1 1 [.string z1, .string z2] rfl rfl (new_two w7 _ _) (HTwo.out _ _) HZ2.out.2.2.1 HZ2.out.2.2.2 (by rw [World.size_alloc]; have := b7.size; omega) ?_; intro v7' w7' hown7' hgr7'; have b7' : Below w5'.heap.size w5' w7' := (b7.alloc b7.size _).grown hgr7' (by rw [World.size_alloc]; have := b7.size; omega) (fun k hk => (hown7.lt k hk).1)) | (refine step_own _ rfl _ _ 22 rfl w5'.heap.size 48 i0 (.agg #[.string ByteArray.empty, .string ByteArray.empty]) 2 32 Try.underlying22 hi hz0 hz1 hz2 rfl (by decide) v7 _ _ rfl hown7 ⟨w5'.heap.size, 0, none⟩ 1 1 [.string z1, .string z2] rfl rfl (fun j u hj => (hgr7.cell_far _ (far_lt _ _ j) (fun h => by cases h)).trans (new_two w5'.drew _ _ j u hj)) (HTwo.out _ _) HZ2.out.2.2.1 HZ2.out.2.2.2 b7.size ?_; intro v7' w7' hown7' hgr7'; have b7' : Below w5'.heap.size w5' w7' := b7.grown hgr7' b7.size (fun k hk => (hown7.lt k hk).1)))
              all_goals
                have HRow' := Lib.hid (HS2.out _ _ _ hown7')
                have HRow1 := Lib.hid (HRow.out.below b7')
                have hbF := HB.out.trans ((b5'.trans (b7'.mono b5'.size)).mono HB.out.size)
                clear hown7' hgr7' hgr7 hown7 HNt HNt0 HK2 HL2 HO2 HS2 HS3 HZ2 hs7 hs7a b7 b7' b5' HRow HB
                have hd1 : ((n : Int) + 1 == 1) = decide (n + 1 = 1) := by rw [Bool.eq_iff_iff, beq_iff_eq, decide_eq_true_eq]; omega
                obtain ⟨q, hq⟩ : ∃ q, decide (n + 1 = 1) = q := ⟨_, rfl⟩
                rw [hq] at HR2 hd1
                have hqq : (q == q) = true := by simp
                clear hq
                go_wp2_with fail
                refine (HR1.out _ _ _ HRow1.out (Below.refl _ _)).mono ?_
                rintro e w9 ⟨rfl, hw9⟩
                go_wp2_with fail
                refine (HR2.out _ _ _ HRow'.out hw9).mono ?_
                rintro e w10 ⟨rfl, hw10⟩
                have hF := grows hbF (grows hw9 hw10)
                go_wp2
                go_ret
                exact ⟨rfl, hF⟩

open Go.ChangeShapes Go.WideShapes Go.ChangeAt
set_option maxRecDepth 100000 in
theorem lifted (os : Os) (started : os.Started) (H : Type) (enc : TypeId × Value → H) :
    ReturnsInHanded {} Try.checked os 5 .any (Rows.labelFindsSpec.pre6 enc Try.prog Try.f5 Rows.labelFindsRow.domain false) (Rows.labelFindsSpec.post enc Try.prog Try.f5 false true false false) := by
  refine returnsInHanded_of_change_sized (C := Try.checked) Ends.own started (by kernel_rfl) Try.func5
    (ChangeSpec.witness6 (enc := enc) (C := Try.checked) false ⟨#[], #[.slice none 0 0, .string ⟨#[]⟩], []⟩ 8 (by kernel_rfl) (by kernel_rfl) (by kernel_rfl) (by kernel_rfl)) ?_
  intro W base args ds gs before hval0 hW _ hsz0 _
  have hval : ∀ (j : Nat) t v, Try.f5.params[j]? = some t → args[j]? = some v → Value.okWide Try.prog W .any base t v := hval0
  have hsz : (DataW.weightsEach Try.prog (Try.f5.params.toList ++ Rows.labelFindsSpec.plain.varTypes Try.prog) (ds ++ gs)).all (· ≤ reachBytes) = true := hsz0
  have hW' := hW
  obtain ⟨p, q, hA0, hV, rfl, hfz, hnd⟩ := hW
  have hA : DataW.TrodAll enc Try.prog W 0 (fun _ => true) true Try.f5.params.toList args.toList ds p := hA0
  rw [Try.params5] at hA hval hsz
  obtain ⟨v0, vs0, d0, ds0, p0, q0, hargs, rfl, rfl, h0, r0⟩ := trodAll_cons hA
  obtain ⟨v1, vs1, d1, ds1, p1, q1, rfl, rfl, rfl, h1, r1⟩ := trodAll_cons r0
  obtain ⟨rfl, rfl, rfl⟩ := trodAll_nil r1
  obtain rfl : args = #[v0, v1] := by cases args; simp_all
  obtain ⟨rfl, rfl⟩ := trodVars_none hV
  obtain ⟨a0, w0⟩ := Args.open_bytes Try.underlying43 Try.underlying5 (by kernel_rfl) (hval 0 43 v0 rfl rfl) h0
  obtain ⟨a1, rfl, rfl, rfl, w1⟩ := Go.ChangeMaps.open_string Try.underlying9 (hval 1 9 v1 rfl rfl) h1
  have b1 : a1.size ≤ 140737488351232 := by have := sized_string hsz (j := 1) rfl rfl; rw [Array.length_toList] at this; exact this
  refine (walk v0 a0 a1 b1 W w0).mono fun e W' ⟨he, hb⟩ => ?_
  subst he
  exact ⟨_, rfl, Ends.law_end Ends.laidOut (by rw [Try.params5]; decide +kernel) rfl (by kernel_rfl) Try.underlying4 hW' rfl hb⟩

/-- The statement. -/
theorem proved : Rows.LabelFindsSaid :=
  OpenClaim.holds_of_wide 5 Try.f5 rfl rfl rfl rfl rfl rfl rfl ⟨rfl, rfl, rfl, rfl, rfl⟩ rfl rfl rfl rfl rfl (by kernel_rfl) Try.func5 (by kernel_rfl)
    (of_decide_eq_true (by kernel_rfl)) (by unfold Func.isWrapper; first | (rw [if_pos (by decide +kernel)]; kernel_rfl) | (rw [if_neg (by decide +kernel)]; exact ⟨rfl, rfl⟩))
    (fun os started H enc _ => lifted os started H enc)
end Go.Proofs.Ytpkaejacnblplaa.labelFinds
