/- What the document's own Find and Right answer of any labels, and what the statements' own refL and sameL do; of memory that was there nothing turns. -/
import Derived.Test.YtpkaejacnblplaaLabelRight
import Derived.Test.YtpkaejacnblplaaLAppend
import Derived.Test.YtpkaejacnblplaaRefName
namespace Go.Proofs.Ytpkaejacnblplaa.Label
open Go.RowKit Go.Proofs.Ytpkaejacnblplaa.Word

set_option maxHeartbeats 2000000 in
set_option maxRecDepth 100000 in
theorem refFind_rows (v : Value) (ls : List Pr) (key : ByteArray) (w : World) (hv : Row w v ls) (hl : ls.length ≤ 4611686018427387904) :
    Calls Try.prog 12 #[v, .string key] w fun e w' => e = .returned (found (findL ls key)) ∧ Below w.heap.size w w' := by
  obtain ⟨ad, cap, rfl⟩ := hv.slice
  have HV := Lib.hid hv
  clear hv
  go_enter Try.func12, Try.ntmps12
  go_wp2
  go_loopw [6] (fun i wr => ∃ k : Nat, k ≤ ls.length ∧ i = .int .i64 k ∧ findL (ls.drop k) key = findL ls key ∧ Below w.heap.size w wr) (fun i _ => ls.length - (intOf i).toNat)
  case atStart => exact ⟨0, Nat.zero_le _, rfl, rfl, Below.refl _ _⟩
  case round =>
    obtain ⟨k, hk, rfl, hf, hb⟩ := hrel
    have HF := Lib.hid hf
    clear hf
    by_cases hlt : k < ls.length
    · have hltz : (k : Int) < (ls.length : Int) := by omega
      have hk0 : (0 : Int) ≤ (k : Int) := by omega
      obtain ⟨g, o, rfl, hg, hc⟩ := HV.out.cells hlt
      obtain ⟨x, hx⟩ : ∃ x, ls[k]? = some x := ⟨_, List.getElem?_eq_getElem hlt⟩
      obtain ⟨c1, c2⟩ := hc.below hg hb k x hx
      have HX := Lib.hid hx
      clear hx hc
      obtain ⟨x1, x2⟩ := x
      have he : Hid ((x1.toList == key.toList) = true) ∨ Hid ((x1.toList == key.toList) = false) := by cases h : (x1.toList == key.toList); exact .inr (Lib.hid rfl); exact .inl (Lib.hid rfl)
      rcases he with he | he
      · have h1 := he.out
        go_wp2
        go_ret2
        rw [← HF.out, find_drop_hit HX.out he.out]
        exact ⟨rfl, hb⟩
      · have h1 := he.out
        go_wp2
        go_roundw
        case rel => exact ⟨k + 1, by omega, by go_num, by rw [← HF.out, find_drop_miss HX.out he.out], hb⟩
        case measure => simp [intOf]; omega
    · go_wp2
      go_ret2
      have := HF.out
      rw [List.drop_eq_nil_of_le (by omega)] at this
      rw [← this]
      exact ⟨rfl, hb⟩

set_option maxHeartbeats 2000000 in
set_option maxRecDepth 100000 in
theorem sameL_rows (u v : Value) (a b : List Pr) (w : World) (hu : Row w u a) (hv : Row w v b) (ha : a.length ≤ 4611686018427387904) :
    Calls Try.prog 17 #[u, v] w fun e w' => e = .returned (.bool (decide (a = b))) ∧ Below w.heap.size w w' := by
  obtain ⟨x, cx, rfl⟩ := hu.slice
  obtain ⟨y, cy, rfl⟩ := hv.slice
  have HU := Lib.hid hu
  have HV := Lib.hid hv
  clear hu hv
  by_cases hl : a.length = b.length
  · have hln : ((a.length : Int) == (b.length : Int)) = true := by rw [hl]; simp
    have hlm : ((a.length : Int) != (b.length : Int)) = false := by rw [hl]; simp
    have HL := Lib.hid hl
    clear hl
    go_enter Try.func17, Try.ntmps17
    go_wp2
    go_loopw [5] (fun i wr => ∃ k : Nat, k ≤ a.length ∧ i = .int .i64 k ∧ a.take k = b.take k ∧ Below w.heap.size w wr) (fun i _ => a.length - (intOf i).toNat)
    case atStart => exact ⟨0, Nat.zero_le _, rfl, by simp, Below.refl _ _⟩
    case round =>
      obtain ⟨k, hk, rfl, ht, hb⟩ := hrel
      have HT := Lib.hid ht
      clear ht
      by_cases hlt : k < a.length
      · have hltz : (k : Int) < (a.length : Int) := by omega
        have hltb : k < b.length := by have := HL.out; omega
        have hltw : (k : Int) < (b.length : Int) := by omega
        have hk0 : (0 : Int) ≤ (k : Int) := by omega
        obtain ⟨g, o, rfl, hg, hc⟩ := HU.out.cells hlt
        obtain ⟨g', o', rfl, hg', hc'⟩ := HV.out.cells hltb
        obtain ⟨x, hx⟩ : ∃ x, a[k]? = some x := ⟨_, List.getElem?_eq_getElem hlt⟩
        obtain ⟨y, hy⟩ : ∃ y, b[k]? = some y := ⟨_, List.getElem?_eq_getElem hltb⟩
        obtain ⟨c1, c2⟩ := hc.below hg hb k x hx
        obtain ⟨d1, d2⟩ := hc'.below hg' hb k y hy
        have HA : Hid (a.take (k + 1) = a.take k ++ [x]) := Lib.hid (by rw [List.take_add_one, hx]; rfl)
        have HB : Hid (b.take (k + 1) = b.take k ++ [y]) := Lib.hid (by rw [List.take_add_one, hy]; rfl)
        have HX := Lib.hid hx
        have HY := Lib.hid hy
        clear hx hy hc hc'
        obtain ⟨x1, x2⟩ := x
        obtain ⟨y1, y2⟩ := y
        obtain ⟨q1, hq1⟩ : ∃ q, (x1.toList == y1.toList) = q := ⟨_, rfl⟩
        obtain ⟨q2, hq2⟩ : ∃ q, (x2.toList == y2.toList) = q := ⟨_, rfl⟩
        have HQ : Hid (eqP (x1, x2) (y1, y2) = (q1 && q2)) := Lib.hid (by unfold eqP; rw [hq1, hq2])
        have HNE : Hid ((q1 && q2) = false → decide (a = b) = false) := Lib.hid fun hqq => decide_eq_false fun h => by
          have h1 := HX.out
          rw [h, HY.out] at h1
          have h2 := (eqP_iff (x1, x2) (y1, y2)).2 (by simpa using h1.symm)
          rw [HQ.out, hqq] at h2
          cases h2
        cases q1 with
        | false =>
          go_wp2
          go_quiet (fail)
          go_wp2
          go_ret
          exact ⟨by rw [HNE.out rfl]; rfl, below_drewN hb _⟩
        | true =>
          cases q2 with
          | false =>
            go_wp2
            go_quiet (fail)
            go_wp2
            go_ret
            exact ⟨by rw [HNE.out rfl]; rfl, below_drewN hb _⟩
          | true =>
            go_wp2
            go_quiet (fail)
            go_wp2
            go_roundw
            case rel => exact ⟨k + 1, by omega, by go_num, by rw [HA.out, HB.out, HT.out, (eqP_iff _ _).1 HQ.out], below_drewN hb _⟩
            case measure => simp [intOf]; omega
      · have hltz : ¬ (k : Int) < (a.length : Int) := by omega
        have HE : Hid (decide (a = b) = true) := Lib.hid (decide_eq_true (by
          have h1 := HT.out
          rw [List.take_of_length_le (by omega), List.take_of_length_le (by have := HL.out; omega)] at h1
          exact h1))
        go_wp2
        go_ret
        exact ⟨by rw [HE.out]; rfl, hb⟩
  · have HE : Hid (decide (a = b) = false) := Lib.hid (decide_eq_false (fun h => hl (by rw [h])))
    have hln : ((a.length : Int) == (b.length : Int)) = false := by rw [beq_eq_false_iff_ne]; omega
    have hlm : ((a.length : Int) != (b.length : Int)) = true := by rw [bne_iff_ne]; omega
    clear hl
    go_enter Try.func17, Try.ntmps17
    go_wp2
    go_ret
    exact ⟨by rw [HE.out]; rfl, Below.refl _ _⟩

theorem infoR : (Try.prog.info? 53).map (fun i => (i.zero, i.size, i.bytes)) = some (some (.agg #[.string ByteArray.empty, .string ByteArray.empty]), 2, 32) := by kernel_rfl
theorem own_rowT {B : Nat} {T : TypeId} {w : World} {v : Value} {ls : List Pr} (h : w.ownsRow B T 2 v ls.length (ls.flatMap enc)) : Row w v ls := by
  have hc := fun g hg => h.cells (g := g) hg
  rcases h.2 with ⟨rfl, h0⟩ | ⟨g, cap, cur, rfl, hB, hg, hcap, hm, hsz, htake⟩
  · exact .inl ⟨List.eq_nil_of_length_eq_zero h0, _, _, rfl, Nat.zero_le _⟩
  · by_cases hl : ls = []
    · subst hl; exact .inl ⟨rfl, _, _, rfl, hm⟩
    · refine .inr ⟨hl, g, 0, cap, rfl, (Array.getElem?_eq_some_iff.1 hg).1, hcap, hm, fun j x hj => ?_⟩
      obtain ⟨h0, h1⟩ := fm_get ls j x hj
      have e0 := hc g rfl _ _ h0
      have e1 := hc g rfl _ _ h1
      rw [Addr.add_lit] at e0 e1
      exact ⟨e0, e1⟩
theorem new_twoT (T : TypeId) (w : World) (x y : Value) : ∀ j u, [x, y][j]? = some u → (w.alloc (.cells #[x, y] T)).cell? ((⟨w.heap.size, 0, none⟩ : Addr).add j) = some u := by
  intro j u hj
  have h : (w.alloc (.cells #[x, y] T)).heap[w.heap.size]? = some (.cells #[x, y] T) := heap_alloc_new _ _
  rw [Addr.add_lit]
  match j with
  | 0 => simp at hj; subst hj; simp only [World.cell?, h]; rfl
  | 1 => simp at hj; subst hj; simp only [World.cell?, h]; rfl
  | (n + 2) => simp at hj

set_option maxHeartbeats 4000000 in
set_option maxRecDepth 100000 in
theorem refL_rows (v : Value) (ls : List Pr) (w : World) (hv : Row w v ls) (hl : ls.length ≤ 4398046511104) :
    Calls Try.prog 10 #[v] w fun e w' => (∃ u, e = .returned u ∧ Row w' u ls) ∧ Below w.heap.size w w' := by
  obtain ⟨i0, hi, hz0, hz1, hz2⟩ := info_parts infoR
  obtain ⟨ad, cap, rfl⟩ := hv.slice
  have HV := Lib.hid hv
  clear hv
  go_enter Try.func10, Try.ntmps10
  go_wp2
  go_loopw [3, 4] (fun t i wr => ∃ k : Nat, k ≤ ls.length ∧ i = .int .i64 k ∧ wr.ownsRow w.heap.size 53 2 t (ls.take k).length ((ls.take k).flatMap enc) ∧ Below w.heap.size w wr) (fun _ i _ => ls.length - (intOf i).toNat)
  case atStart => exact ⟨0, Nat.zero_le _, rfl, World.ownsRow_nil _ _ _ _, Below.refl _ _⟩
  case round =>
    obtain ⟨k, hk, rfl, hown, hb⟩ := hrel
    have HO := Lib.hid hown
    clear hown
    by_cases hlt : k < ls.length
    · have hltz : (k : Int) < (ls.length : Int) := by omega
      have hk0 : (0 : Int) ≤ (k : Int) := by omega
      obtain ⟨g, o, rfl, hg, hc⟩ := HV.out.cells hlt
      obtain ⟨x, hx⟩ : ∃ x, ls[k]? = some x := ⟨_, List.getElem?_eq_getElem hlt⟩
      have HN1 : Hid (ls.take (k + 1) = ls.take k ++ [x]) := Lib.hid (by rw [List.take_add_one, hx]; rfl)
      have HK : Hid (∀ x', Below w.heap.size w x' → x'.cell? ⟨g, o + k * 2, none⟩ = some (.string x.1) ∧ x'.cell? ⟨g, o + k * 2 + 1, none⟩ = some (.string x.2)) := Lib.hid fun x' h => hc.below hg h k x hx
      have hlk : (ls.take k).length = k := by rw [List.length_take]; omega
      have HLz : Hid ((ls.take k).length + 1 ≤ maxLen ∧ ((ls.take k).length + 1) * 32 ≤ 140737488355328 ∧ w.heap.size ≤ wr.heap.size + 1) := Lib.hid (by have := hb.size; unfold maxLen; omega)
      have HO2 : Hid (∀ x, (wr.drew.alloc x).ownsRow w.heap.size 53 2 u3 (ls.take k).length ((ls.take k).flatMap enc)) := Lib.hid fun x => World.ownsRow.alloc (w := wr.drew) HO.out x
      have hs0 : Below wr.heap.size wr wr.drew := (Below.refl _ _).drew
      have hb2 : Below w.heap.size w wr.drew := hb.drew
      clear hx hc hlk
      obtain ⟨x1, x2⟩ := x
      simp only at HK
      have hb3 : Below w.heap.size w (World.alloc wr.drew (.cells #[.string x1, .string x2] 53)) := hb2.alloc hb2.size _
      go_wp2_with fail
      go_region_held3 (fun x => x.cell? ⟨g, o + k * 2, none⟩ = some (.string x1) ∧ x.cell? ⟨g, o + k * 2 + 1, none⟩ = some (.string x2))
        (first | exact HK.out _ hb2 | exact HK.out _ hb3 | exact HK.out _ b5)
        (first | (refine step_own _ rfl _ _ 24 rfl w.heap.size 53 i0 (.agg #[.string ByteArray.empty, .string ByteArray.empty]) 2 32 Try.underlying24 hi hz0 hz1 hz2 rfl (by decide) u3 _ _ rfl (HO2.out _) ⟨wr.heap.size, 0, none⟩ 1 1 [.string x1, .string x2] rfl rfl (new_twoT _ wr.drew _ _) (fun u hu => by simp at hu; rcases hu with rfl | rfl <;> rfl) HLz.out.1 HLz.out.2.1 (by show _ ≤ (World.alloc wr _).heap.size; rw [World.size_alloc]; exact HLz.out.2.2) ?_; intro v5 w5 hown5 hgr5; have b5 : Below w.heap.size w w5 := hb3.grown hgr5 hb3.size (fun k hk => (HO.out.lt k hk).1)))
      have hown4 : w5.ownsRow w.heap.size 53 2 v5 (ls.take (k + 1)).length ((ls.take (k + 1)).flatMap enc) := by rw [HN1.out, fm_snoc]; simpa using hown5
      clear hown5 hgr5
      go_wp2
      go_roundw
      case rel => exact ⟨k + 1, by omega, by go_num, hown4, b5⟩
      case measure => simp [intOf]; omega
    · obtain rfl : k = ls.length := by omega
      have HO' := HO.out
      rw [List.take_length] at HO'
      clear HO
      have HO := Lib.hid HO'
      clear HO'
      go_wp2
      go_ret
      exact ⟨⟨_, rfl, own_rowT HO.out⟩, hb⟩

open labelRight in
theorem fitsB_no (ls : List Pr) {k : Nat} (h : fitsB ls k = false) : ∀ m, k ≤ m → fitsB ls m = false
  | 0, hm => by
    obtain rfl : k = 0 := by omega
    exact h
  | m + 1, hm => by
    rcases Nat.lt_or_ge m k with h1 | h1
    · obtain rfl : k = m + 1 := by omega
      exact h
    · rw [fitsB, fitsB_no ls h m h1]
      rfl

open labelRight in
set_option maxHeartbeats 4000000 in
set_option maxRecDepth 100000 in
theorem refRight_rows (v : Value) (ls : List Pr) (w : World) (hv : Row w v ls) (hs : ∀ x ∈ ls, x.1.size ≤ 4611686018427387904 ∧ x.2.size ≤ 4611686018427387904) (hl : ls.length ≤ 4611686018427387904) :
    Calls Try.prog 19 #[v] w fun e w' => e = .returned (.bool (rightL ls)) ∧ Below w.heap.size w w' := by
  obtain ⟨ad, cap, rfl⟩ := hv.slice
  have HV := Lib.hid hv
  have HSz := Lib.hid hs
  have HRi : Hid (∀ (s : ByteArray) (b : Bool), s.size ≤ 4611686018427387904 → right s.data.toList = b → ∀ w, Calls Try.prog 41 #[.string s] w fun e w' => e = .returned (.bool b) ∧ Below w.heap.size w w') := Lib.hid fun s b hz h w => by rw [← h]; exact refRight_any s hz w
  have HFi := Lib.hid (fits_is ls)
  clear hv hs
  by_cases h8 : ls.length ≤ 8
  · have h8z : ¬ (8 : Int) < (ls.length : Int) := by omega
    have HEnd : Hid (fitsB ls ls.length = true → rightL ls = true) := Lib.hid fun h => by rw [← HFi.out, h, decide_eq_true h8]; rfl
    have HNo' : Hid (∀ k, k < ls.length → fitsB ls (k + 1) = false → rightL ls = false) := Lib.hid fun k hk h => by rw [← HFi.out, fitsB_no ls h ls.length hk]; simp
    go_enter Try.func19, Try.ntmps19
    go_wp2
    go_loopw [3] (fun i wr => ∃ k : Nat, k ≤ ls.length ∧ i = .int .i64 k ∧ fitsB ls k = true ∧ Below w.heap.size w wr) (fun i _ => ls.length - (intOf i).toNat)
    case atStart => exact ⟨0, Nat.zero_le _, rfl, rfl, Below.refl _ _⟩
    case round =>
      obtain ⟨k, hk, rfl, hf, hb⟩ := hrel
      have HF := Lib.hid hf
      clear hf
      by_cases hlt : k < ls.length
      · have hltz : (k : Int) < (ls.length : Int) := by omega
        have hk0 : (0 : Int) ≤ (k : Int) := by omega
        obtain ⟨g, o, rfl, hg, hc⟩ := HV.out.cells hlt
        obtain ⟨x, hx⟩ : ∃ x, ls[k]? = some x := ⟨_, List.getElem?_eq_getElem hlt⟩
        have hgr : g < wr.heap.size := Nat.lt_of_lt_of_le hg hb.size
        have c1 : ∀ p : Quiet.Behind wr, p.world.cell? ⟨g, o + k * 2, none⟩ = some (.string x.1) := fun p => Quiet.cell (a := ⟨g, o + k * 2, none⟩) hgr (hc.below hg hb k x hx).1 p
        have c2 : ∀ p : Quiet.Behind wr, p.world.cell? ⟨g, o + k * 2 + 1, none⟩ = some (.string x.2) := fun p => Quiet.cell (a := ⟨g, o + k * 2 + 1, none⟩) hgr (hc.below hg hb k x hx).2 p
        have HX := Lib.hid hx
        have HC := Lib.hid hc
        have HZ1 := Lib.hid (HSz.out x (List.mem_of_getElem? hx)).1
        have HZ2 := Lib.hid (HSz.out x (List.mem_of_getElem? hx)).2
        have HS : Hid (fitsB ls (k + 1) = (fitsB ls k && oneFits ls k)) := Lib.hid rfl
        have HNo : Hid (oneFits ls k = false → rightL ls = false) := Lib.hid fun h => HNo'.out k hlt (by rw [HS.out, h]; simp)
        clear hx hc
        obtain ⟨x1, x2⟩ := x
        obtain ⟨r1, hr1⟩ : ∃ q, right x1.data.toList = q := ⟨_, rfl⟩
        obtain ⟨r2, hr2⟩ : ∃ q, right x2.data.toList = q := ⟨_, rfl⟩
        have HR1 := Lib.hid hr1
        have HR2 := Lib.hid hr2
        clear hr1 hr2
        cases r1 with
        | false =>
          have HN : Hid (oneFits ls k = false) := Lib.hid (right_first HX.out HR1.out)
          go_wp2_with fail
          refine Quiet.region (by kernel_rfl) (by kernel_rfl) ?_
          repeat (go_big_quiet_step (first | (go_at_call 41; (with_reducible exact Quiet.calls (HRi.out _ _ HZ1.out HR1.out _)))))
          refine wpQuiet_nil ?_
          rintro _ ⟨pq, rfl⟩
          have hq := grows hb pq.below
          generalize pq.world = wq at hq ⊢
          go_wp2
          go_ret
          exact ⟨by rw [HNo.out HN.out]; rfl, hq⟩
        | true =>
          cases r2 with
          | false =>
            have HN : Hid (oneFits ls k = false) := Lib.hid (right_second HX.out HR1.out HR2.out)
            go_wp2_with fail
            refine Quiet.region (by kernel_rfl) (by kernel_rfl) ?_
            repeat (go_big_quiet_step (first | (go_at_call 41; (with_reducible exact Quiet.calls (HRi.out _ _ HZ1.out HR1.out _))) | (go_at_call 41; (with_reducible exact Quiet.calls (HRi.out _ _ HZ2.out HR2.out _)))))
            refine wpQuiet_nil ?_
            rintro _ ⟨pq, rfl⟩
            have hq := grows hb pq.below
            generalize pq.world = wq at hq ⊢
            go_wp2
            go_ret
            exact ⟨by rw [HNo.out HN.out]; rfl, hq⟩
          | true =>
            by_cases hkz : k = 0
            · have HN : Hid (oneFits ls k = true) := Lib.hid (by subst hkz; exact right_zero HX.out HR1.out HR2.out)
              have hz0 : decide ((0 : Int) < (k : Int)) = false := decide_eq_false (by omega)
              have hz1 : ¬ (0 : Int) < (k : Int) := by omega
              have hz2 : ¬ 0 < k := by omega
              have hz3 : decide (0 < k) = false := decide_eq_false hz2
              have HKZ := Lib.hid hkz
              clear hkz
              go_wp2_with fail
              refine Quiet.region (by kernel_rfl) (by kernel_rfl) ?_
              repeat (go_big_quiet_step (first | (go_at_call 41; (with_reducible exact Quiet.calls (HRi.out _ _ HZ1.out HR1.out _))) | (go_at_call 41; (with_reducible exact Quiet.calls (HRi.out _ _ HZ2.out HR2.out _)))))
              refine wpQuiet_nil ?_
              rintro _ ⟨pq, rfl⟩
              have hq := grows hb pq.below
              generalize pq.world = wq at hq ⊢
              go_wp2
              go_roundw
              case rel => exact ⟨k + 1, by omega, by go_num, by rw [HS.out, HF.out, HN.out]; rfl, hq⟩
              case measure => simp [intOf]; omega
            · obtain ⟨j, rfl⟩ : ∃ j, k = j + 1 := ⟨k - 1, by omega⟩
              obtain ⟨y, hy⟩ : ∃ y, ls[j]? = some y := ⟨_, List.getElem?_eq_getElem (by omega)⟩
              have e1 : ∀ p : Quiet.Behind wr, p.world.cell? ⟨g, o + j * 2, none⟩ = some (.string y.1) := fun p => Quiet.cell (a := ⟨g, o + j * 2, none⟩) hgr (HC.out.below hg hb j y hy).1 p
              obtain ⟨y1, y2⟩ := y
              obtain ⟨b, hbl⟩ : ∃ b, Op.bytesLess y1.toList x1.toList = b := ⟨_, rfl⟩
              have HN : Hid (oneFits ls (j + 1) = b) := Lib.hid (by rw [right_more HX.out hy HR1.out HR2.out, ← hbl]; rfl)
              have hwr1 : IntKind.i64.wrap (j : Int) = (j : Int) := by rw [IntKind.wrap_i64]; omega
              have hwr2 : IntKind.i64.wrap ((j : Int) + 1 - 1) = (j : Int) := by rw [Int.add_sub_cancel]; exact hwr1
              have hz1 : (0 : Int) < (j : Int) + 1 := by omega
              have hj0 : (0 : Int) ≤ (j : Int) := by omega
              have hjl : (j : Int) < (ls.length : Int) := by omega
              have hjk : (j : Int) + 1 < (ls.length : Int) := by omega
              clear hy
              cases b with
              | true =>
                have hA : Op.bytesLess x1.toList y1.toList = false := by
                  cases hh : Op.bytesLess x1.toList y1.toList with
                  | false => rfl
                  | true =>
                    have h3 := less_swo.trans (x1, x1) (y1, y1) (x1, x1) hh hbl
                    rw [less_swo.irrefl] at h3
                    cases h3
                have hB : (x1.toList == y1.toList) = false := less_ne hbl
                go_wp2_with fail
                refine Quiet.region (by kernel_rfl) (by kernel_rfl) ?_
                repeat (go_big_quiet_step (first | (go_at_call 41; (with_reducible exact Quiet.calls (HRi.out _ _ HZ1.out HR1.out _))) | (go_at_call 41; (with_reducible exact Quiet.calls (HRi.out _ _ HZ2.out HR2.out _)))))
                refine wpQuiet_nil ?_
                rintro _ ⟨pq, rfl⟩
                have hq := grows hb pq.below
                generalize pq.world = wq at hq ⊢
                go_wp2
                go_roundw
                case rel => exact ⟨j + 1 + 1, by omega, by go_num, by rw [HS.out, HF.out, HN.out]; rfl, hq⟩
                case measure => simp [intOf]; omega
              | false =>
                obtain ⟨q, hq0⟩ : ∃ q, (x1.toList == y1.toList) = q := ⟨_, rfl⟩
                cases q with
                | true =>
                  have hA : Op.bytesLess x1.toList y1.toList = false := by
                    have h1 := less_irrefl x1
                    unfold less at h1
                    rw [← beq_iff_eq.1 hq0]
                    exact h1
                  go_wp2_with fail
                  refine Quiet.region (by kernel_rfl) (by kernel_rfl) ?_
                  repeat (go_big_quiet_step (first | (go_at_call 41; (with_reducible exact Quiet.calls (HRi.out _ _ HZ1.out HR1.out _))) | (go_at_call 41; (with_reducible exact Quiet.calls (HRi.out _ _ HZ2.out HR2.out _)))))
                  refine wpQuiet_nil ?_
                  rintro _ ⟨pq, rfl⟩
                  have hq := grows hb pq.below
                  generalize pq.world = wq at hq ⊢
                  go_wp2
                  go_ret
                  exact ⟨by rw [HNo.out HN.out]; rfl, hq⟩
                | false =>
                  have hA : Op.bytesLess x1.toList y1.toList = true := less_total hbl hq0
                  go_wp2_with fail
                  refine Quiet.region (by kernel_rfl) (by kernel_rfl) ?_
                  repeat (go_big_quiet_step (first | (go_at_call 41; (with_reducible exact Quiet.calls (HRi.out _ _ HZ1.out HR1.out _))) | (go_at_call 41; (with_reducible exact Quiet.calls (HRi.out _ _ HZ2.out HR2.out _)))))
                  refine wpQuiet_nil ?_
                  rintro _ ⟨pq, rfl⟩
                  have hq := grows hb pq.below
                  generalize pq.world = wq at hq ⊢
                  go_wp2
                  go_ret
                  exact ⟨by rw [HNo.out HN.out]; rfl, hq⟩
      · obtain rfl : k = ls.length := by omega
        go_wp2
        go_ret
        exact ⟨by rw [HEnd.out HF.out]; rfl, hb⟩
  · have h8z : (8 : Int) < (ls.length : Int) := by omega
    have HE : Hid (rightL ls = false) := Lib.hid (by unfold rightL; rw [decide_eq_false h8]; rfl)
    clear h8
    go_enter Try.func19, Try.ntmps19
    go_wp2
    go_ret
    exact ⟨by rw [HE.out]; rfl, Below.refl _ _⟩
end Go.Proofs.Ytpkaejacnblplaa.Label
