/- What the document's own Right, has, Match and Same answer of any selectors, and what the statements' own refS does; of memory that was there nothing turns. -/
import Derived.Test.YtcgknkbigbbfdaaDoorSRef4
namespace Go.Proofs.YtcgknkbigbbfdaaDoor.Sel
open Go.RowKit Go.Proofs.YtcgknkbigbbfdaaDoor.Texts Go.Proofs.YtcgknkbigbbfdaaDoor.Word Go.Proofs.YtcgknkbigbbfdaaDoor.Forms Go.Proofs.YtcgknkbigbbfdaaDoor.Boxes Go.Proofs.YtcgknkbigbbfdaaDoor.Label

theorem infoT5 : (Tryd.prog.info? 59).map (fun i => (i.zero, i.size, i.bytes)) = some (some (.agg #[.string ByteArray.empty, .bool false, .slice none 0 0]), 3, 48) := by kernel_rfl

set_option maxHeartbeats 4000000 in
set_option maxRecDepth 100000 in
theorem refS_any (v : Value) (ls : List Tm) (w : World) (hv : TRow w v ls) (hl : ls.length ≤ 1048576) :
    Calls Tryd.prog 10 #[v] w fun e w' => (∃ u, e = .returned u ∧ TRow w' u ls) ∧ Below w.heap.size w w' := by
  obtain ⟨i0, hi, hz0, hz1, hz2⟩ := info_parts infoT5
  obtain ⟨a, cap, rfl, hcap, hm⟩ := hv.slice
  have HV := Lib.hid hv
  clear hv
  go_enter Tryd.func10, Tryd.ntmps10
  go_wp2_with fail
  go_loopw [3, 4] (fun t i wr => ∃ (k : Nat) (xs : List (Tm × Value)), k ≤ ls.length ∧ i = .int .i64 k ∧ xs.length = k ∧ xs.map (·.1) = ls.take k ∧ wr.ownsRow w.heap.size 59 3 t xs.length (tvals xs) ∧ (∀ x ∈ xs, SRow w x.2 x.1.2.2) ∧ Below w.heap.size w wr) (fun _ i _ => ls.length - (intOf i).toNat)
  case atStart => exact ⟨0, [], Nat.zero_le _, rfl, rfl, rfl, World.ownsRow_nil _ _ _ _, fun x hx => by simp at hx, Below.refl _ _⟩
  case round =>
    obtain ⟨k, xs, hk, rfl, hxl, hxm, hown, hin, hb⟩ := hrel
    have HXL := Lib.hid hxl
    have HXM := Lib.hid hxm
    have HO := Lib.hid hown
    have HIn := Lib.hid hin
    clear hxl hxm hown hin
    by_cases hlt : k < ls.length
    · have hltz : (k : Int) < (ls.length : Int) := by omega
      have hk0 : (0 : Int) ≤ (k : Int) := by omega
      obtain ⟨g, o, rfl, hg, hcell⟩ := HV.out.cells hlt
      obtain ⟨t, ht⟩ : ∃ t, ls[k]? = some t := ⟨_, List.getElem?_eq_getElem hlt⟩
      obtain ⟨c0, c1, s, c2, hs⟩ := hcell k t ht
      obtain ⟨sa, sc, rfl, _, _⟩ := hs.slice
      have HS := Lib.hid hs
      have HT := Lib.hid ht
      obtain ⟨tk, tn, tv⟩ := t
      have HK : Hid (∀ W, Below w.heap.size w W → W.cell? ⟨g, o + k * 3, none⟩ = some (.string tk) ∧ W.cell? ⟨g, o + k * 3 + 1, none⟩ = some (.bool tn) ∧ W.cell? ⟨g, o + k * 3 + 2, none⟩ = some (.slice sa tv.length sc)) := Lib.hid fun W h => ⟨(h.cell (p := ⟨g, o + k * 3, none⟩) hg).trans c0, (h.cell (p := ⟨g, o + k * 3 + 1, none⟩) hg).trans c1, (h.cell (p := ⟨g, o + k * 3 + 2, none⟩) hg).trans c2⟩
      have HLz : Hid (xs.length + 1 ≤ maxLen ∧ (xs.length + 1) * 48 ≤ 140737488355328 ∧ w.heap.size ≤ wr.heap.size + 1) := Lib.hid (by have := HXL.out; have := hb.size; unfold maxLen; omega)
      have HO2 : Hid (∀ x, (wr.drew.alloc x).ownsRow w.heap.size 59 3 u3 xs.length (tvals xs)) := Lib.hid fun x => World.ownsRow.alloc (w := wr.drew) HO.out x
      have hb2 : Below w.heap.size w wr.drew := hb.drew
      have hb3 : Below w.heap.size w (World.alloc wr.drew (.cells #[.string tk, .bool tn, .slice sa tv.length sc] 59)) := hb2.alloc hb2.size _
      clear ht hs hcell c0 c1 c2
      go_wp2_with fail
      go_region_held3 (fun x => x.cell? ⟨g, o + k * 3, none⟩ = some (.string tk) ∧ x.cell? ⟨g, o + k * 3 + 1, none⟩ = some (.bool tn) ∧ x.cell? ⟨g, o + k * 3 + 2, none⟩ = some (.slice sa tv.length sc))
        (first | exact HK.out _ hb2 | exact HK.out _ hb3 | exact HK.out _ b5)
        (first | (refine step_own _ rfl _ _ 25 rfl w.heap.size 59 i0 (.agg #[.string ByteArray.empty, .bool false, .slice none 0 0]) 3 48 Tryd.underlying25 hi hz0 hz1 hz2 rfl (by decide) u3 _ _ rfl (HO2.out _) ⟨wr.heap.size, 0, none⟩ 1 1 [.string tk, .bool tn, .slice sa tv.length sc] rfl rfl (new3 wr.drew _ _ _ _) (one3 _ _ _ _ _) HLz.out.1 HLz.out.2.1 (by show _ ≤ (World.alloc wr _).heap.size; rw [size_alloc]; exact HLz.out.2.2) ?_; intro v5 w5 hown5 hgr5; have b5 : Below w.heap.size w w5 := hb3.grown hgr5 hb3.size (fun k hk => (HO.out.lt k hk).1)))
      have hown4 : w5.ownsRow w.heap.size 59 3 v5 (xs ++ [((tk, tn, tv), Value.slice sa tv.length sc)]).length (tvals (xs ++ [((tk, tn, tv), Value.slice sa tv.length sc)])) := by rw [tvals_snoc, List.length_append]; exact hown5
      clear hown5 hgr5
      go_wp2
      go_roundw
      case rel =>
        refine ⟨k + 1, xs ++ [((tk, tn, tv), .slice sa tv.length sc)], by omega, by go_num, by rw [List.length_append, HXL.out]; rfl, ?_, hown4, ?_, b5⟩
        · rw [List.map_append, HXM.out, List.take_add_one, HT.out]; rfl
        · intro x hx
          rcases List.mem_append.1 hx with hx | hx
          · exact HIn.out x hx
          · rw [List.mem_singleton.1 hx]; exact HS.out
      case measure => simp [intOf]; omega
    · obtain rfl : k = ls.length := by omega
      have HR : Hid (TRow wr u3 ls) := Lib.hid (by
        have := own_trow HO.out (fun x hx => (HIn.out x hx).below hb)
        rw [HXM.out, List.take_length] at this
        exact this)
      go_wp2
      go_ret
      exact ⟨⟨_, rfl, HR.out⟩, hb⟩

/-- Is a text among some? (The document's way round.) -/
def hasV (x : ByteArray) (ts : List ByteArray) : Bool := ts.any fun y => y.toList == x.toList
theorem hasV_take {x y : ByteArray} {ts : List ByteArray} {k : Nat} (hy : ts[k]? = some y) (h : hasV x (ts.take k) = false) : hasV x (ts.take (k + 1)) = (y.toList == x.toList) := by
  unfold hasV at *
  rw [List.take_add_one, hy, List.any_append, h]
  simp
set_option maxHeartbeats 1000000 in
set_option maxRecDepth 100000 in
theorem refHas_any (v : Value) (ts : List ByteArray) (x : ByteArray) (w : World) (hv : SRow w v ts) (hl : ts.length ≤ 4611686018427387904) :
    Calls Tryd.prog 43 #[v, .string x] w fun e w' => e = .returned (.bool (hasV x ts)) ∧ Below w.heap.size w w' := by
  obtain ⟨a, cap, rfl, hcap, hm⟩ := hv.slice
  have HV := Lib.hid hv
  clear hv
  go_enter Tryd.func43, Tryd.ntmps43
  go_wp2_with fail
  go_loopw [5] (fun i wr => ∃ k : Nat, k ≤ ts.length ∧ i = .int .i64 k ∧ hasV x (ts.take k) = false ∧ Below w.heap.size w wr) (fun i _ => ts.length - (intOf i).toNat)
  case atStart => exact ⟨0, Nat.zero_le _, rfl, rfl, Below.refl _ _⟩
  case round =>
    obtain ⟨k, hk, rfl, hf, hb⟩ := hrel
    have HF := Lib.hid hf
    clear hf
    by_cases hlt : k < ts.length
    · have hltz : (k : Int) < (ts.length : Int) := by omega
      obtain ⟨g, o, rfl, hg, hcell⟩ := (HV.out.below hb).cells hlt
      obtain ⟨y, hy⟩ : ∃ y, ts[k]? = some y := ⟨_, List.getElem?_eq_getElem hlt⟩
      have hc := hcell k y hy
      have HY := Lib.hid hy
      clear hy hcell
      obtain ⟨r, hr⟩ : ∃ r, (y.toList == x.toList) = r := ⟨_, rfl⟩
      have HR := Lib.hid hr
      cases r with
      | true =>
        go_wp2
        go_ret
        exact ⟨by rw [show hasV x ts = true from List.any_eq_true.2 ⟨y, List.mem_of_getElem? HY.out, HR.out⟩]; rfl, hb⟩
      | false =>
        go_wp2
        go_roundw
        case rel => exact ⟨k + 1, by omega, by go_num, by rw [hasV_take HY.out HF.out]; exact HR.out, hb⟩
        case measure => simp [intOf]; omega
    · have hltz : ¬ ((k : Int) < (ts.length : Int)) := by omega
      go_wp2
      go_ret
      have := HF.out
      rw [List.take_of_length_le (by omega)] at this
      exact ⟨by rw [this]; rfl, hb⟩
theorem holds_hasV (x : ByteArray) (k : ByteArray) (n : Bool) (t : ByteArray) (ts : List ByteArray) : holdsT (some x) (k, n, t :: ts) = (hasV x (t :: ts) != n) := by
  unfold holdsT hasV
  simp

set_option maxHeartbeats 4000000 in
set_option maxRecDepth 100000 in
theorem refMatch_any (v : Value) (ls : List Tm) (pv : Value) (ps : List Pr) (w : World) (hv : TRow w v ls) (hl : Sel.Fair ls) (hp : Row w pv ps) (hpl : ps.length ≤ 4611686018427387904) :
    Calls Tryd.prog 19 #[v, pv] w fun e w' => e = .returned (.bool (matchS (findL ps) ls)) ∧ Below w.heap.size w w' := by
  obtain ⟨a, cap, rfl, hcap, hm⟩ := hv.slice
  have hl1 := hl.1
  have HL := Lib.hid hl
  have HV := Lib.hid hv
  have HP := Lib.hid hp
  clear hv hp hl
  go_enter Tryd.func19, Tryd.ntmps19
  go_wp2_with fail
  go_loopw [5] (fun i wr => ∃ k : Nat, k ≤ ls.length ∧ i = .int .i64 k ∧ matchS (findL ps) (ls.take k) = true ∧ Below w.heap.size w wr) (fun i _ => ls.length - (intOf i).toNat)
  case atStart => exact ⟨0, Nat.zero_le _, rfl, rfl, Below.refl _ _⟩
  case round =>
    obtain ⟨k, hk, rfl, hf, hb⟩ := hrel
    have HF := Lib.hid hf
    clear hf
    by_cases hlt : k < ls.length
    · have hltz : (k : Int) < (ls.length : Int) := by omega
      obtain ⟨g, o, rfl, hg, hcell⟩ := (HV.out.below hb).cells hlt
      obtain ⟨t, ht⟩ : ∃ t, ls[k]? = some t := ⟨_, List.getElem?_eq_getElem hlt⟩
      obtain ⟨c0, c1, s, c2, hs⟩ := hcell k t ht
      obtain ⟨sa, sc, rfl, _, _⟩ := hs.slice
      have HS := Lib.hid hs
      have HT := Lib.hid ht
      have hfr := HL.out.2 t (List.mem_of_getElem? ht)
      obtain ⟨r, hr⟩ : ∃ r, r = findL ps t.1 := ⟨_, rfl⟩
      have HFi : Hid (Calls Tryd.prog 42 #[pv, .string t.1] wr fun e w' => e = .returned (found r) ∧ Below wr.heap.size wr w') := Lib.hid (by rw [hr]; exact refFind_rows pv ps t.1 wr (HP.out.below hb) hpl)
      have HNext : Hid (holdsT r t = true → matchS (findL ps) (ls.take (k + 1)) = true) := Lib.hid fun h => by rw [matchS_take HT.out HF.out, ← hr]; exact h
      have HStop : Hid (holdsT r t = false → matchS (findL ps) ls = false) := Lib.hid fun h => matchS_no HT.out (by rw [← hr]; exact h)
      have HK : Hid (∀ W, Below wr.heap.size wr W → W.cell? ⟨g, o + k * 3 + 1, none⟩ = some (.bool t.2.1) ∧ W.cell? ⟨g, o + k * 3 + 2, none⟩ = some (.slice sa t.2.2.length sc)) := Lib.hid fun W h => ⟨(h.cell (p := ⟨g, o + k * 3 + 1, none⟩) hg).trans c1, (h.cell (p := ⟨g, o + k * 3 + 2, none⟩) hg).trans c2⟩
      obtain ⟨tk, tn, tv⟩ := t
      simp only at hr HFi HK c0 hfr
      clear ht hs hcell c1 c2 hr
      cases r with
      | none =>
        change Hid (Calls _ _ _ wr fun e w' => e = .returned (.tuple #[.string ⟨#[]⟩, .bool false]) ∧ _) at HFi
        rw [holds_nil] at HNext HStop
        simp only at HNext HStop
        go_wp2_with fail
        with_reducible refine HFi.out.mono ?_
        rintro e w1 ⟨rfl, hb1⟩
        obtain ⟨d1, d2⟩ := HK.out w1 hb1
        clear c0
        by_cases hz : tv.length = 0
        · have hzz : ¬ (0 : Int) < (tv.length : Int) := by omega
          have hz2 : decide ((0 : Int) < (tv.length : Int)) = false := decide_eq_false hzz
          have hz3 : decide (0 < tv.length) = false := decide_eq_false (by omega)
          have HZ := Lib.hid hz
          clear hz
          cases tn with
          | true =>
            go_wp2
            go_roundw
            case rel => exact ⟨k + 1, by omega, by go_num, HNext.out (by first | rfl | trivial), grows hb hb1⟩
            case measure => simp [intOf]; omega
          | false =>
            go_wp2
            go_ret
            exact ⟨by rw [HStop.out (by first | rfl | trivial)]; rfl, grows hb hb1⟩
        · have hzz : (0 : Int) < (tv.length : Int) := by omega
          have hz2 : decide ((0 : Int) < (tv.length : Int)) = true := decide_eq_true hzz
          have hz3 : decide (0 < tv.length) = true := decide_eq_true (by omega)
          have HZ := Lib.hid hz
          clear hz
          cases tn with
          | true =>
            go_wp2
            go_roundw
            case rel => exact ⟨k + 1, by omega, by go_num, HNext.out (by first | rfl | trivial), grows hb hb1⟩
            case measure => simp [intOf]; omega
          | false =>
            go_wp2
            go_ret
            exact ⟨by rw [HStop.out (by first | rfl | trivial)]; rfl, grows hb hb1⟩
      | some x =>
        change Hid (Calls _ _ _ wr fun e w' => e = .returned (.tuple #[.string x, .bool true]) ∧ _) at HFi
        cases tv with
        | nil =>
          have hh : holdsT (some x) (tk, tn, []) = !tn := by simp [holdsT]
          rw [hh] at HNext HStop
          change Hid (∀ W, Below wr.heap.size wr W → W.cell? ⟨g, o + k * 3 + 1, none⟩ = some (.bool tn) ∧ W.cell? ⟨g, o + k * 3 + 2, none⟩ = some (.slice sa 0 sc)) at HK
          clear hh
          go_wp2_with fail
          with_reducible refine HFi.out.mono ?_
          rintro e w1 ⟨rfl, hb1⟩
          obtain ⟨d1, d2⟩ := HK.out w1 hb1
          clear c0
          cases tn with
          | false =>
            go_wp2
            go_roundw
            case rel => exact ⟨k + 1, by omega, by go_num, HNext.out (by first | rfl | trivial), grows hb hb1⟩
            case measure => simp [intOf]; omega
          | true =>
            go_wp2
            go_ret
            exact ⟨by rw [HStop.out (by first | rfl | trivial)]; rfl, grows hb hb1⟩
        | cons v0 tv =>
          rw [holds_hasV] at HNext HStop
          obtain ⟨m, hme⟩ : ∃ m, m = (v0 :: tv).length := ⟨_, rfl⟩
          have hm0 : (0 : Int) < (m : Int) := by rw [hme]; simp
          obtain ⟨q, hq⟩ : ∃ q, q = hasV x (v0 :: tv) := ⟨_, rfl⟩
          rw [← hq] at HNext HStop
          have HHas : Hid (∀ W, Below wr.heap.size wr W → Calls Tryd.prog 43 #[.slice sa m sc, .string x] W fun e w' => e = .returned (.bool q) ∧ Below W.heap.size W w') := Lib.hid fun W h => by
            rw [hq, hme]
            exact refHas_any _ (v0 :: tv) x W (HS.out.below h) hfr.2.1
          simp only [← hme] at HK
          have hz2 : decide ((0 : Int) < (m : Int)) = true := decide_eq_true hm0
          clear hq hme hfr
          go_wp2_with fail
          with_reducible refine HFi.out.mono ?_
          rintro e w1 ⟨rfl, hb1⟩
          obtain ⟨d1, d2⟩ := HK.out w1 hb1
          clear c0
          go_wp2_with fail
          with_reducible refine (HHas.out _ hb1).mono ?_
          rintro e w2 ⟨rfl, hb2⟩
          have hb12 := grows hb1 hb2
          obtain ⟨e1, e2⟩ := HK.out w2 hb12
          clear d1 d2 hb1 hb2
          cases q with
          | true =>
            cases tn with
            | false =>
              go_wp2
              go_roundw
              case rel => exact ⟨k + 1, by omega, by go_num, HNext.out (by first | rfl | trivial), grows hb hb12⟩
              case measure => simp [intOf]; omega
            | true =>
              go_wp2
              go_ret
              exact ⟨by rw [HStop.out (by first | rfl | trivial)]; rfl, grows hb hb12⟩
          | false =>
            cases tn with
            | true =>
              go_wp2
              go_roundw
              case rel => exact ⟨k + 1, by omega, by go_num, HNext.out (by first | rfl | trivial), grows hb hb12⟩
              case measure => simp [intOf]; omega
            | false =>
              go_wp2
              go_ret
              exact ⟨by rw [HStop.out (by first | rfl | trivial)]; rfl, grows hb hb12⟩
    · have hltz : ¬ ((k : Int) < (ls.length : Int)) := by omega
      go_wp2
      go_ret
      have := HF.out
      rw [List.take_of_length_le (by omega)] at this
      exact ⟨by rw [this]; rfl, hb⟩
end Go.Proofs.YtcgknkbigbbfdaaDoor.Sel
