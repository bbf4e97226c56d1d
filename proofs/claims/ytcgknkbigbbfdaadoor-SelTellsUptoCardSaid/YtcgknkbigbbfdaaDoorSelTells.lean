import Derived.Test.YtcgknkbigbbfdaaDoorSRefB
import Derived.Test.YtcgknkbigbbfdaaDoorSRefT
import Derived.Test.YtcgknkbigbbfdaaDoorSIn
import Derived.Test.YtcgknkbigbbfdaaDoorSJoinC
import Derived.Test.YtcgknkbigbbfdaaDoorSJoinA
import Derived.Test.YtcgknkbigbbfdaaDoorTie
import Derived.Test.YtcgknkbigbbfdaaDoorCards
import Derived.JoinedCond
import Derived.LaidMore
import Derived.Lay
import Derived.PlainAid
import Derived.SevenTiedAt
import Derived.Stop.Joined
/- What the document's own one tells of any piece that is not too long for a machine, in one form. -/
namespace Go.Proofs.YtcgknkbigbbfdaaDoor.Sel
open Go.RowKit Go.Proofs.YtcgknkbigbbfdaaDoor.Texts Go.Proofs.YtcgknkbigbbfdaaDoor.Word Go.Proofs.YtcgknkbigbbfdaaDoor.Forms Go.Proofs.YtcgknkbigbbfdaaDoor.Boxes Go.Proofs.YtcgknkbigbbfdaaDoor.Label

theorem cut_new (c : UInt8) (q : Int) (hq : (c.toNat : Int) = q) (s : ByteArray) (hs : s.size ≤ 1048576) (W : World) :
    Calls Tryd.prog 36 #[.string s, .int .u8 q] W fun e w' => (∃ v, e = .returned v ∧ SNew W.heap.size w' v ((cuts c s.data.toList).map str)) ∧ Below W.heap.size W w' := by
  rw [← hq]
  refine (cut_rows s hs c W).mono ?_
  rintro e w' ⟨⟨v, rfl, h1, h2⟩, hb⟩
  exact ⟨⟨v, rfl, h1, fun g o n c e _ => h2 g (by rw [e]; rfl)⟩, hb⟩
theorem two_none {ls : List (List UInt8)} (h : twoT ls = none) : ls.length ≠ 2 := by
  intro e
  match ls, e with
  | [a, b], _ => cases h
theorem two_some {ls : List (List UInt8)} {x : List UInt8 × List UInt8} (h : twoT ls = some x) : ls = [x.1, x.2] := by
  unfold twoT at h
  split at h
  · cases h; rfl
  · cases h
theorem at_byte (s : ByteArray) (k : Nat) (h : k < s.size) : s.data.toList[k]? = some (s[k]'h) := by
  rw [Array.getElem?_toList]
  exact Array.getElem?_eq_getElem h

theorem refOne_any (s : ByteArray) (hs : s.size ≤ 1048576) (w : World) :
    Calls Tryd.prog 37 #[.string s] w (OneR (readT s.data.toList) w) := by
  have hls := size_list s
  by_cases h33 : s.data.toList.head? = some 33
  · have e : readT s.data.toList = (str s.data.toList.tail, true, []) := by unfold readT; rw [if_pos h33]
    have h0 : 0 < s.size := by
      rw [← hls]
      cases hl : s.data.toList with
      | nil => rw [hl] at h33; cases h33
      | cons a r => simp
    rw [e]
    refine one_ahead s _ h0 ?_ ?_ hs w
    · have h1 := at_byte s 0 h0
      rw [← List.head?_eq_getElem?, h33] at h1
      exact (Option.some.inj h1).symm
    · rw [extract_mid, List.take_of_length_le (by rw [List.length_drop]; omega), List.drop_one]
  · have hb33 : ∀ h0 : 0 < s.size, ¬ s[0]'h0 = 33 := fun h0 h => h33 (by rw [List.head?_eq_getElem?, at_byte s 0 h0, h])
    cases h2 : twoT (cuts 61 s.data.toList) with
    | none =>
      have e : readT s.data.toList = (s, false, []) := by unfold readT; rw [if_neg h33, h2]; simp only; rw [str_data]
      rw [e]
      have HC : Hid (∀ W, Calls Tryd.prog 36 #[.string s, .int .u8 61] W fun e w' => (∃ a cap, e = .returned (.slice a (cuts 61 s.data.toList).length cap)) ∧ Below W.heap.size W w') := Lib.hid fun W => by
        refine (cut_new 61 61 rfl s hs W).mono ?_
        rintro e w' ⟨⟨v, rfl, h⟩, hb⟩
        obtain ⟨a, cap, rfl, _⟩ := h.row.slice
        exact ⟨⟨a, cap, by rw [List.length_map]⟩, hb⟩
      by_cases h0 : s.size = 0
      · exact one_none s h0 w _ (two_none h2) HC
      · exact one_bare s (by omega) (hb33 (by omega)) w _ (two_none h2) HC
    | some x =>
      have hx := two_some h2
      obtain ⟨a, b⟩ := x
      simp only at hx
      have h0 : 0 < s.size := by
        rw [← hls]
        cases hl : s.data.toList with
        | nil => rw [hl] at hx; cases hx
        | cons a r => simp
      have hlen := (cuts_len 61 s.data.toList).2
      rw [hx] at hlen
      have ha := hlen a (by simp)
      have hbl := hlen b (by simp)
      have hKs : (str a).size ≤ 1048576 := by rw [str_len]; omega
      have hBs : (str b).size ≤ 1048576 := by rw [str_len]; omega
      have HC : Hid (∀ W, Calls Tryd.prog 36 #[.string s, .int .u8 61] W fun e w' => (∃ v, e = .returned v ∧ SRow w' v [str a, str b]) ∧ Below W.heap.size W w') := Lib.hid fun W => by
        refine (cut_new 61 61 rfl s hs W).mono ?_
        rintro e w' ⟨⟨v, rfl, h⟩, hb⟩
        rw [hx] at h
        exact ⟨⟨v, rfl, h.row⟩, hb⟩
      have HD : Hid (∀ W, Calls Tryd.prog 36 #[.string (str b), .int .u8 124] W fun e w' => (∃ v, e = .returned v ∧ SNew W.heap.size w' v ((cuts 124 b).map str)) ∧ Below W.heap.size W w') := Lib.hid fun W => by
        have := cut_new 124 124 rfl (str b) hBs W
        rw [str_toList] at this
        exact this
      cases hlast : a.getLast? with
      | none =>
        have e : readT s.data.toList = (str a, false, (cuts 124 b).map str) := by unfold readT; rw [if_neg h33, h2]; simp only; rw [hlast, if_neg (by simp)]
        rw [e]
        have hnil : a = [] := List.getLast?_eq_none_iff.1 hlast
        exact one_empty s (str a) (str b) (by rw [str_len, hnil]; rfl) hs h0 (hb33 h0) w _ HC HD
      | some y =>
        have hne : a ≠ [] := by intro h; rw [h] at hlast; cases hlast
        have hpos : 0 < a.length := List.length_pos_iff.2 hne
        have hKn : (str a).size = (a.length - 1) + 1 := by rw [str_len]; omega
        have hy : (str a)[a.length - 1]'(by omega) = y := by
          have h1 := at_byte (str a) (a.length - 1) (by omega)
          rw [str_toList, ← List.getLast?_eq_getElem?, hlast] at h1
          exact (Option.some.inj h1).symm
        by_cases hy33 : y = 33
        · have e : readT s.data.toList = (str a.dropLast, true, (cuts 124 b).map str) := by unfold readT; rw [if_neg h33, h2]; simp only; rw [hlast, if_pos (by rw [hy33])]
          rw [e]
          refine one_bang s (str a) (str b) _ (a.length - 1) hKn hKs ?_ ?_ hs h0 (hb33 h0) w _ HC HD
          · rw [hy, hy33]; rfl
          · rw [extract_mid, str_toList, List.drop_zero, Nat.sub_zero, List.dropLast_eq_take]
        · have e : readT s.data.toList = (str a, false, (cuts 124 b).map str) := by unfold readT; rw [if_neg h33, h2]; simp only; rw [hlast, if_neg (by simp [hy33])]
          rw [e]
          refine one_plain s (str a) (str b) (a.length - 1) hKn hKs ?_ hs h0 (hb33 h0) w _ HC HD
          rw [hy, beq_eq_false_iff_ne]
          intro h
          exact hy33 (UInt8.toNat_inj.1 (by show y.toNat = 33; omega))
end Go.Proofs.YtcgknkbigbbfdaaDoor.Sel

/- What the document's own Parse answers of any text that is not too long for a machine; of memory that was there nothing turns. -/
namespace Go.Proofs.YtcgknkbigbbfdaaDoor.Sel
open Go.RowKit Go.Proofs.YtcgknkbigbbfdaaDoor.Texts Go.Proofs.YtcgknkbigbbfdaaDoor.Word Go.Proofs.YtcgknkbigbbfdaaDoor.Forms Go.Proofs.YtcgknkbigbbfdaaDoor.Boxes Go.Proofs.YtcgknkbigbbfdaaDoor.Label

/-- A selector that is made: its own row, and what stands in it. -/
structure Made5 (B : Nat) (w : World) (v : Value) (xs : List (Tm × Value)) : Prop where
  own : w.ownsRow B 59 3 v xs.length (tvals xs)
  terms : In (Beside B v) w xs
theorem Made5.trow {B : Nat} {w : World} {v : Value} {xs : List (Tm × Value)} (h : Made5 B w v xs) : TRow w v (xs.map (·.1)) := own_trow h.own fun x hx => (h.terms x hx).1
theorem Made5.start (B : Nat) (w : World) : Made5 B w (.slice none 0 0) [] := ⟨World.ownsRow_nil _ _ _ _, fun x hx => by simp at hx⟩
/-- One more term, appended. -/
theorem Made5.step {B : Nat} {w w3 w4 : World} {v : Value} {xs : List (Tm × Value)} {t : Tm} {s : Value} {g cap : Nat} {o : Obj} (h : Made5 B w v xs) (hBw : B ≤ w.heap.size) (h3 : Below w.heap.size w w3) (hs : SNew w.heap.size w3 s t.2.2)
    (hown : w4.ownsRow B 59 3 (.slice (some ⟨g, 0, none⟩) (xs.length + 1) cap) (xs.length + 1) (tvals xs ++ tcells (t, s)))
    (hgrow : (w3.alloc o).grownBy w4 v.ownBlock) (hat : v.ownBlock = some g ∨ g = w3.heap.size + 1) :
    Made5 B w4 (.slice (some ⟨g, 0, none⟩) (xs.length + 1) cap) (xs ++ [(t, s)]) ∧ Below B w w4 := by
  have hvo : ∀ k, v.ownBlock = some k → B ≤ k ∧ k < w.heap.size := fun k hk => h.own.lt k hk
  have hsz : w3.heap.size + 1 ≤ w4.heap.size := by have := hgrow.size; rw [size_alloc] at this; exact this
  have h3s := h3.size
  have keep3 : ∀ k, k < w3.heap.size → v.ownBlock ≠ some k → w4.heap[k]? = w3.heap[k]? := fun k hk ho => by
    rw [hgrow.block k (by rw [size_alloc]; omega) (fun e => ho e.symm)]
    exact Below.heap_alloc _ _ _ hk
  have hg : v.ownBlock = some g ∨ w3.heap.size < g := hat.imp id (by omega)
  refine ⟨⟨?_, ?_⟩, ?_⟩
  · rw [List.length_append, tvals_snoc]
    exact hown
  · refine In.snoc ?_ ?_
    · refine h.terms.kept (by omega) fun k ⟨hk1, hk2⟩ hk3 => ⟨(keep3 k (by omega) hk2).trans (h3.block k hk3), hk1, ?_⟩
      rcases hg with hg | hg
      · intro e
        simp [Value.ownBlock] at e
        subst e
        exact hk2 hg
      · intro e
        simp [Value.ownBlock] at e
        omega
    · refine hs.sin.kept (by omega) fun k hk1 hk3 => ⟨keep3 k hk3 (fun e => by have := hvo k e; omega), by omega, ?_⟩
      rcases hg with hg | hg
      · intro e
        simp [Value.ownBlock] at e
        subst e
        have := hvo _ hg
        omega
      · intro e
        simp [Value.ownBlock] at e
        omega
  · have h4 : Below B w (w3.alloc o) := (h3.mono hBw).alloc (by omega) _
    exact h4.grown hgrow (by rw [size_alloc]; omega) (fun k hk => (hvo k hk).1)

theorem readT_fair {q : List UInt8} (h : q.length ≤ 1048576) : (readT q).1.size ≤ 4611686018427387904 ∧ (readT q).2.2.length ≤ 4611686018427387904 ∧ ∀ x ∈ (readT q).2.2, x.size ≤ 4611686018427387904 := by
  unfold readT
  split
  · refine ⟨?_, by simp, fun x hx => by simp at hx⟩
    simp only
    rw [str_len, List.length_tail]; omega
  · split
    · refine ⟨?_, by simp, fun x hx => by simp at hx⟩
      simp only
      rw [str_len]; omega
    · rename_i x hx
      have h2 := two_some hx
      have hl := (cuts_len 61 q).2
      rw [h2] at hl
      have ha := hl x.1 (by simp)
      have hb := hl x.2 (by simp)
      obtain ⟨l1, l2⟩ := cuts_len 124 x.2
      have hv : ∀ y ∈ (cuts 124 x.2).map str, y.size ≤ 4611686018427387904 := fun y hy => by
        obtain ⟨z, hz, rfl⟩ := List.mem_map.1 hy
        have := l2 z hz
        rw [str_len]; omega
      split
      · refine ⟨?_, ?_, hv⟩
        · simp only
          rw [str_len, List.length_dropLast]; omega
        · simp only
          rw [List.length_map]; omega
      · refine ⟨?_, ?_, hv⟩
        · simp only
          rw [str_len]; omega
        · simp only
          rw [List.length_map]; omega

set_option maxHeartbeats 4000000 in
set_option maxRecDepth 100000 in
theorem refParse_on (s : ByteArray) (hs : s.size ≤ 1048576) (hd : (s.toList == [45]) = false) (ps : List (List UInt8)) (hps : cuts 44 s.data.toList = ps) (w : World) (O : Option (List Tm)) (HO : Hid (O = if rightS (ps.map readT) = true ∧ textS (ps.map readT) = s then some (ps.map readT) else none)) :
    Calls Tryd.prog 14 #[.string s] w (TellsS O w) := by
  obtain ⟨i0, hi, hz0, hz1, hz2⟩ := info_parts infoT5
  have hls := size_list s
  obtain ⟨pl1, pl2⟩ := cuts_len 44 s.data.toList
  rw [hps] at pl1 pl2
  have hpl : ps.length ≤ 1048577 := by omega
  have HL : Hid (∀ q ∈ ps, q.length ≤ 1048576) := Lib.hid fun q hq => by have := pl2 q hq; omega
  have HC : Hid (∀ W, Calls Tryd.prog 36 #[.string s, .int .u8 44] W fun e w' => (∃ v, e = .returned v ∧ SRow w' v (ps.map str)) ∧ Below W.heap.size W w') := Lib.hid fun W => by
    refine (cut_new 44 44 rfl s hs W).mono ?_
    rintro e w' ⟨⟨v, rfl, h⟩, hb⟩
    rw [hps] at h
    exact ⟨⟨v, rfl, h.row⟩, hb⟩
  have HFair : Hid (Fair (ps.map readT)) := Lib.hid ⟨by rw [List.length_map]; omega, fun t ht => by
    obtain ⟨q, hq, rfl⟩ := List.mem_map.1 ht
    exact readT_fair (HL.out q hq)⟩
  clear pl1 pl2 hps hls
  go_enter Tryd.func14, Tryd.ntmps14
  go_wp2_with fail
  with_reducible refine (HC.out _).mono ?_
  rintro e w1 ⟨⟨v, rfl, hrow⟩, hb1⟩
  obtain ⟨a, cap, rfl, _, _⟩ := hrow.slice
  rw [List.length_map] at hrow ⊢
  have HRow := Lib.hid hrow
  clear hrow
  go_wp2_with fail
  go_loopw [4, 6] (fun t i wr => ∃ (k : Nat) (xs : List (Tm × Value)), k ≤ ps.length ∧ i = .int .i64 k ∧ xs.length = k ∧ xs.map (·.1) = (ps.take k).map readT ∧ Made5 w1.heap.size wr t xs ∧ Below w1.heap.size w1 wr) (fun _ i _ => ps.length - (intOf i).toNat)
  case atStart => exact ⟨0, [], Nat.zero_le _, rfl, rfl, rfl, Made5.start _ _, Below.refl _ _⟩
  case round =>
    obtain ⟨k, xs, hk, rfl, hxl, hxm, hmk, hb⟩ := hrel
    have HXL := Lib.hid hxl
    have HXM := Lib.hid hxm
    have HMK := Lib.hid hmk
    clear hxl hxm hmk
    by_cases hlt : k < ps.length
    · have hltz : (k : Int) < (ps.length : Int) := by omega
      have hk0 : (0 : Int) ≤ (k : Int) := by omega
      obtain ⟨g, o, rfl, hg, hcell⟩ := (HRow.out.below hb).cells (k := k) (by rw [List.length_map]; exact hlt)
      obtain ⟨q, hq⟩ : ∃ q, ps[k]? = some q := ⟨_, List.getElem?_eq_getElem hlt⟩
      have hc := hcell k (str q) (by rw [List.getElem?_map, hq]; rfl)
      have HQ := Lib.hid hq
      have HT : Hid (∀ W, Calls Tryd.prog 37 #[.string (str q)] W (OneR (readT q) W)) := Lib.hid fun W => by
        have h := refOne_any (str q) (by rw [str_len]; exact HL.out q (List.mem_of_getElem? hq)) W
        rw [str_toList] at h
        exact h
      have hbs := hb.size
      have HLz : Hid (xs.length + 1 ≤ maxLen ∧ (xs.length + 1) * 48 ≤ 140737488355328) := Lib.hid (by have := HXL.out; unfold maxLen; omega)
      obtain ⟨t, htq⟩ : ∃ t, t = readT q := ⟨_, rfl⟩
      have HTQ := Lib.hid htq
      rw [← htq] at HT
      clear hq hcell htq
      go_wp2_with fail
      with_reducible refine (HT.out _).mono ?_
      rintro e w2 ⟨⟨v2, rfl, s2, rfl, hs2⟩, hb2⟩
      obtain ⟨sa, sc, rfl, _, _⟩ := hs2.row.slice
      have HS2 := Lib.hid hs2
      have hb2s := hb2.size
      clear hs2
      go_wp2_with (at_builtin; refine wpList_append_lies _ rfl _ _ 25 rfl w1.heap.size 59 i0 (.agg #[.string ByteArray.empty, .bool false, .slice none 0 0]) 3 48 Tryd.underlying25 hi hz0 hz1 hz2 rfl (by decide) _ _ _ rfl (World.ownsRow.alloc (own_below HMK.out.own hb2) _) ⟨w2.heap.size, 0, none⟩ 1 1 [.string t.1, .bool t.2.1, .slice sa t.2.2.length sc] rfl rfl (new3 w2 _ _ _ _) (one3 _ _ _ _ _) (by decide) HLz.out.1 HLz.out.2 (by rw [size_alloc]; omega) (w2.heap.size + 1) (size_alloc _ _) ?_)
      intro g5 cap5 w5 hown5 hgrow5 hat5 _
      obtain ⟨hm5, hb5⟩ := HMK.out.step hbs hb2 HS2.out hown5 hgrow5 hat5
      have HM5 := Lib.hid hm5
      have hb6 : Below w1.heap.size w1 w5 := hb.trans hb5
      clear hown5 hgrow5 hat5 hm5 hb5 hc
      go_wp2
      go_roundw
      case rel => exact ⟨k + 1, xs ++ [(t, .slice sa t.2.2.length sc)], by omega, by go_num, by rw [List.length_append, HXL.out]; rfl, by rw [List.map_append, HXM.out, List.take_add_one, HQ.out, List.map_append, HTQ.out]; rfl, HM5.out, hb6⟩
      case measure => simp [intOf]; omega
    · obtain rfl : k = ps.length := by omega
      have htr : TRow wr u4 (ps.map readT) := by
        have := HMK.out.trow
        rw [HXM.out, List.take_length] at this
        exact this
      have HTR := Lib.hid htr
      have HR := Lib.hid (refRightS_any _ _ wr htr HFair.out)
      have HTx : Hid (∀ W, Below wr.heap.size wr W → Calls Tryd.prog 25 #[u4] W fun e w' => e = .returned (.string (textS (ps.map readT))) ∧ Below W.heap.size W w') := Lib.hid fun W h => refTextS_any _ _ W (htr.below h) HFair.out
      obtain ⟨M, hM⟩ : ∃ M, M = ps.map readT := ⟨_, rfl⟩
      rw [← hM] at HR HTx HTR HO
      have hbF := grows hb1 hb
      clear htr hM
      cases hr : rightS M with
      | false =>
        have HE : Hid (O = none) := Lib.hid (HO.out.trans <| if_neg (by rw [hr]; simp))
        rw [hr] at HR
        clear hr
        go_wp2_with fail
        with_reducible refine HR.out.mono ?_
        rintro e w2 ⟨rfl, hb2⟩
        go_wp2
        go_ret2
        rw [HE.out]
        exact ⟨rfl, grows hbF hb2⟩
      | true =>
        rw [hr] at HR
        obtain ⟨X, hX⟩ : ∃ X, X = textS M := ⟨_, rfl⟩
        rw [← hX] at HTx
        by_cases hXs : X = s
        · have HE : Hid (O = some M) := Lib.hid (HO.out.trans <| if_pos ⟨hr, by rw [← hX]; exact hXs⟩)
          have hc1 : (X.toList == s.toList) = true := by rw [hXs]; simp
          clear hr hX hXs
          go_wp2_with fail
          with_reducible refine HR.out.mono ?_
          rintro e w2 ⟨rfl, hb2⟩
          go_wp2_with fail
          with_reducible refine (HTx.out _ hb2).mono ?_
          rintro e w3 ⟨rfl, hb3⟩
          have hbb := grows hb2 hb3
          go_wp2
          go_ret2
          rw [HE.out]
          exact ⟨⟨_, rfl, HTR.out.below hbb⟩, grows hbF hbb⟩
        · have HE : Hid (O = none) := Lib.hid (HO.out.trans <| if_neg (by rw [← hX]; exact fun h => hXs h.2))
          have hc1 : (X.toList == s.toList) = false := by rw [beq_str]; exact decide_eq_false hXs
          clear hr hX hXs
          go_wp2_with fail
          with_reducible refine HR.out.mono ?_
          rintro e w2 ⟨rfl, hb2⟩
          go_wp2_with fail
          with_reducible refine (HTx.out _ hb2).mono ?_
          rintro e w3 ⟨rfl, hb3⟩
          have hbb := grows hb2 hb3
          go_wp2
          go_ret2
          rw [HE.out]
          exact ⟨rfl, grows hbF hbb⟩

set_option maxHeartbeats 1000000 in
set_option maxRecDepth 100000 in
theorem refParse_dash (s : ByteArray) (hd : (s.toList == [45]) = true) (w : World) :
    Calls Tryd.prog 14 #[.string s] w (TellsS (some []) w) := by
  go_enter Tryd.func14, Tryd.ntmps14
  go_wp2
  go_ret2
  exact ⟨⟨_, rfl, TRow.nil _⟩, Below.refl _ _⟩
theorem refParseS_any (s : ByteArray) (hs : s.size ≤ 1048576) (w : World) : Calls Tryd.prog 14 #[.string s] w (TellsS (parseS s) w) := by
  have hbs : (s.toList == [45]) = decide (s = ⟨#[45]⟩) := by
    have h := beq_str s ⟨#[45]⟩
    rw [Lib.toList_data ⟨#[45]⟩] at h
    exact h
  unfold parseS
  by_cases h : s = ⟨#[45]⟩
  · rw [if_pos h]
    exact refParse_dash s (by rw [hbs]; exact decide_eq_true h) w
  · rw [if_neg h]
    exact refParse_on s hs (by rw [hbs]; exact decide_eq_false h) _ rfl w _ (Lib.hid rfl)
end Go.Proofs.YtcgknkbigbbfdaaDoor.Sel

/- What the document's own Get tells of any place of any text that is not too long for a machine; of memory that was there nothing turns. -/
namespace Go.Proofs.YtcgknkbigbbfdaaDoor.Sel
open Go.RowKit Go.Proofs.YtcgknkbigbbfdaaDoor.Texts Go.Proofs.YtcgknkbigbbfdaaDoor.Word Go.Proofs.YtcgknkbigbbfdaaDoor.Forms Go.Proofs.YtcgknkbigbbfdaaDoor.Boxes

theorem refTerm_any (s : ByteArray) (hs : s.size ≤ 9223372036854775797) (p : Int) (w : World) :
    Calls Tryd.prog 32 #[.string s, .int .i64 p] w (TermG (oneT s p) w) := by
  unfold oneT
  cases h : oneText s p with
  | none =>
    cases hg : Wire.getV s.data.toList 0 with
    | none => exact term_text s p 0 0 0 false w (Lib.hid (refOneText_no s hs p h)) (Lib.hid (Wire.refGet_no s hs 0 hg))
    | some x => exact term_text s p 0 x.1 x.2 true w (Lib.hid (refOneText_no s hs p h)) (Lib.hid (Wire.refGet_yes s hs 0 x.1 x.2 hg))
  | some k =>
    obtain ⟨k, q1⟩ := k
    simp only
    cases hg : Wire.getV s.data.toList q1 with
    | none => exact term_number s p k q1 w (Lib.hid (refOneText_yes s hs p k q1 h)) (Lib.hid (Wire.refGet_no s hs q1 hg))
    | some n =>
      obtain ⟨n, q2⟩ := n
      simp only
      by_cases hn : 9 < n
      · rw [if_pos hn]
        exact term_great s p k q1 n q2 hn w (Lib.hid (refOneText_yes s hs p k q1 h)) (Lib.hid (Wire.refGet_yes s hs q1 n q2 hg))
      · rw [if_neg hn]
        exact refTerm_go s hs p k q1 n (n / 2) _ q2 (by omega) rfl rfl h hg w

theorem readN_each {α π : Type} {one : π → Option (α × π)} {ok : α → Prop} (h : ∀ p x q, one p = some (x, q) → ok x) : ∀ {n : Nat} {p : π} {r : List α × π}, readN one n p = some r → ∀ x ∈ r.1, ok x
  | 0, p, r, hr => by
    simp only [readN, Option.some.injEq] at hr
    subst hr
    simp
  | n + 1, p, r, hr => by
    unfold readN at hr
    split at hr
    · cases hr
    rename_i y hy
    split at hr
    · cases hr
    rename_i z hz
    simp only [Option.some.injEq] at hr
    subst hr
    intro x hx
    rcases List.mem_cons.1 hx with rfl | hx
    · exact h p _ _ hy
    · exact readN_each h hz x hx
theorem oneText_size {s : ByteArray} {p : Int} {x : ByteArray} {q : Int} (h : oneText s p = some (x, q)) : x.size ≤ s.size := by
  unfold oneText at h
  split at h
  · cases h
  simp only [Option.some.injEq, Prod.mk.injEq] at h
  rw [← h.1, ByteArray.size_extract]
  omega
def FairOne (t : Tm) : Prop := t.1.size ≤ 4611686018427387904 ∧ t.2.2.length ≤ 4611686018427387904 ∧ ∀ x ∈ t.2.2, x.size ≤ 4611686018427387904
theorem oneT_fair {s : ByteArray} (hs : s.size ≤ 1048576) (p : Int) (t : Tm) (q : Int) (h : oneT s p = some (t, q)) : FairOne t := by
  unfold oneT at h
  split at h
  · cases h
  rename_i k hk
  split at h
  · cases h
  rename_i n hn
  split at h
  · cases h
  split at h
  · cases h
  rename_i hn9 vs hv
  simp only [Option.some.injEq, Prod.mk.injEq] at h
  rw [← h.1]
  have hl := readN_len hv
  refine ⟨?_, ?_, fun x hx => ?_⟩
  · have := oneText_size (x := k.1) (q := k.2) hk
    show k.1.size ≤ _
    omega
  · show vs.1.length ≤ _
    omega
  · have := readN_each (ok := fun x => x.size ≤ s.size) (fun p x q h => oneText_size h) hv x hx
    omega

set_option maxHeartbeats 1000000 in
set_option maxRecDepth 100000 in
theorem refGet_fails (s : ByteArray) (p : Int) (n : Nat) (q : Int) (y : Bool) (hy : y = false ∨ 4 < n) (w : World)
    (HG : Hid (∀ W, Calls Tryd.prog 31 #[.string s, .int .i64 p] W fun e w' => e = .returned (.tuple #[.int .u64 n, .int .i64 q, .bool y]) ∧ W = w')) :
    Calls Tryd.prog 12 #[.string s, .int .i64 p] w (TellsG none w) := by
  cases y with
  | false =>
    clear hy
    go_enter Tryd.func12, Tryd.ntmps12
    go_wp2_with fail
    with_reducible refine (HG.out _).mono ?_
    rintro e _ ⟨rfl, rfl⟩
    go_wp2
    go_ret3
    exact ⟨rfl, Below.refl _ _⟩
  | true =>
    have hn : (4 : Int) < (n : Int) := by
      rcases hy with h | h
      · cases h
      · omega
    clear hy
    go_enter Tryd.func12, Tryd.ntmps12
    go_wp2_with fail
    with_reducible refine (HG.out _).mono ?_
    rintro e _ ⟨rfl, rfl⟩
    go_wp2
    go_ret3
    exact ⟨rfl, Below.refl _ _⟩

set_option maxHeartbeats 4000000 in
set_option maxRecDepth 100000 in
theorem refGet_go (s : ByteArray) (hs : s.size ≤ 1048576) (p : Int) (n q2 : Nat) (hn : n ≤ 4) (hg : Wire.getV s.data.toList p = some (n, q2)) (w : World) :
    Calls Tryd.prog 12 #[.string s, .int .i64 p] w (TellsG (keepS (readN (oneT s) n (q2 : Int))) w) := by
  obtain ⟨i0, hi, hz0, hz1, hz2⟩ := info_parts infoT5
  have HG := Lib.hid (Wire.refGet_yes s (by omega) p n q2 hg)
  have HFT : Hid (∀ p t q, oneT s p = some (t, q) → FairOne t) := Lib.hid (oneT_fair hs)
  have hwn : IntKind.i64.wrap (n : Int) = (n : Int) := by rw [IntKind.wrap_i64]; omega
  have hn4 : ¬ (4 : Int) < (n : Int) := by omega
  have hn4d : decide ((4 : Int) < (n : Int)) = false := decide_eq_false hn4
  have hn4e : decide (4 < n) = false := decide_eq_false (by omega)
  clear hg
  go_enter Tryd.func12, Tryd.ntmps12
  go_wp2_with fail
  with_reducible refine (HG.out _).mono ?_
  rintro e _ ⟨rfl, rfl⟩
  go_wp2_with fail
  go_loopw [1, 9, 10] (fun at' t i wr => ∃ (j : Nat) (xs : List (Tm × Value)) (q : Int), j ≤ n ∧ i = .int .i64 j ∧ at' = .int .i64 q ∧ xs.length = j ∧ Forms.ahead (xs.map (·.1)) (readN (oneT s) (n - j) q) = readN (oneT s) n (q2 : Int) ∧ (∀ x ∈ xs, FairOne x.1) ∧ Made5 w.heap.size wr t xs ∧ Below w.heap.size w wr) (fun _ _ i _ => n - (intOf i).toNat)
  case atStart => exact ⟨0, [], q2, Nat.zero_le _, rfl, rfl, rfl, ahead_nil _, fun x hx => by simp at hx, Made5.start _ _, Below.refl _ _⟩
  case round =>
    obtain ⟨j, xs, q, hj, rfl, rfl, hxl, hrd, hfx, hmk, hb⟩ := hrel
    have HXL := Lib.hid hxl
    have HRD := Lib.hid hrd
    have HFX := Lib.hid hfx
    have HMK := Lib.hid hmk
    clear hxl hrd hfx hmk
    have hbs := hb.size
    by_cases hlt : j < n
    · have hltz : (j : Int) < (n : Int) := by omega
      have HT := Lib.hid (refTerm_any s (by omega) q)
      cases hone : oneT s q with
      | none =>
        rw [hone] at HT
        have HNo : Hid (readN (oneT s) n (q2 : Int) = none) := Lib.hid (by rw [← HRD.out, show n - j = (n - (j + 1)) + 1 by omega, readN_stop hone])
        clear hone
        go_wp2_with fail
        with_reducible refine (HT.out _).mono ?_
        rintro e w2 ⟨rfl, hb2⟩
        go_wp2
        go_ret3
        rw [HNo.out]
        exact ⟨rfl, grows (grows hb hb2) (grew w2 _)⟩
      | some x =>
        obtain ⟨t, q'⟩ := x
        rw [hone] at HT
        have HRD2 : Hid (Forms.ahead (xs.map (·.1) ++ [t]) (readN (oneT s) (n - (j + 1)) q') = readN (oneT s) n (q2 : Int)) := Lib.hid (by rw [← HRD.out, show n - j = (n - (j + 1)) + 1 by omega, readN_go hone])
        have HFt := Lib.hid (HFT.out q t q' hone)
        have HLz : Hid (xs.length + 1 ≤ maxLen ∧ (xs.length + 1) * 48 ≤ 140737488355328) := Lib.hid (by have := HXL.out; unfold maxLen; omega)
        clear hone
        go_wp2_with fail
        with_reducible refine (HT.out _).mono ?_
        rintro e w2 ⟨⟨v2, rfl, s2, rfl, hs2⟩, hb2⟩
        obtain ⟨sa, sc, rfl, _, _⟩ := hs2.row.slice
        have HS3 := Lib.hid (hs2.below (old w2 (.cells #[.string t.1, .bool t.2.1, .slice sa t.2.2.length sc] 59)))
        have hb3 := grows hb2 (old w2 (.cells #[.string t.1, .bool t.2.1, .slice sa t.2.2.length sc] 59))
        have HO3 := Lib.hid (own_below HMK.out.own hb3)
        have h3s := size_alloc w2 (.cells #[.string t.1, .bool t.2.1, .slice sa t.2.2.length sc] 59)
        have hb2s := hb2.size
        have h4s : (World.alloc (World.alloc w2 (.cells #[.string t.1, .bool t.2.1, .slice sa t.2.2.length sc] 59)) (.cells #[.string t.1, .bool t.2.1, .slice sa t.2.2.length sc] 59)).heap.size = w2.heap.size + 1 + 1 := by rw [size_alloc, size_alloc]
        have HN3 : Hid (∀ j u, [Value.string t.1, .bool t.2.1, .slice sa t.2.2.length sc][j]? = some u → (World.alloc (World.alloc w2 (.cells #[.string t.1, .bool t.2.1, .slice sa t.2.2.length sc] 59)) (.cells #[.string t.1, .bool t.2.1, .slice sa t.2.2.length sc] 59)).cell? ((⟨w2.heap.size + 1, 0, none⟩ : Addr).add j) = some u) := Lib.hid (by
          have := new3 (World.alloc w2 (.cells #[.string t.1, .bool t.2.1, .slice sa t.2.2.length sc] 59)) (.string t.1) (.bool t.2.1) (.slice sa t.2.2.length sc) 59
          rw [h3s] at this
          exact this)
        clear hs2
        go_wp2_with (at_builtin; refine wpList_append_lies _ rfl _ _ 25 rfl w.heap.size 59 i0 (.agg #[.string ByteArray.empty, .bool false, .slice none 0 0]) 3 48 Tryd.underlying25 hi hz0 hz1 hz2 rfl (by decide) _ _ _ rfl (World.ownsRow.alloc HO3.out _) ⟨w2.heap.size + 1, 0, none⟩ 1 1 [.string t.1, .bool t.2.1, .slice sa t.2.2.length sc] rfl rfl HN3.out (one3 _ _ _ _ _) (by decide) HLz.out.1 HLz.out.2 (by rw [h4s]; omega) (w2.heap.size + 1 + 1) h4s ?_)
        intro g5 cap5 w5 hown5 hgrow5 hat5 _
        obtain ⟨hm5, hb5⟩ := HMK.out.step hbs hb3 HS3.out hown5 hgrow5 (by rw [h3s]; exact hat5)
        have HM5 := Lib.hid hm5
        have hb6 : Below w.heap.size w w5 := hb.trans hb5
        clear hown5 hgrow5 hat5 hm5 hb5 hb3 h3s h4s
        go_wp2
        go_roundw
        case rel => exact ⟨j + 1, xs ++ [(t, .slice sa t.2.2.length sc)], q', by omega, by go_num, rfl, by rw [List.length_append, HXL.out]; rfl, by rw [List.map_append]; exact HRD2.out, (fun x hx => by
          rcases List.mem_append.1 hx with hx | hx
          · exact HFX.out x hx
          · rw [List.mem_singleton.1 hx]; exact HFt.out), HM5.out, hb6⟩
        case measure => simp [intOf]; omega
    · have hjn : j = n := by omega
      have hltz : ¬ (j : Int) < (n : Int) := by omega
      have htr := HMK.out.trow
      have HTR := Lib.hid htr
      have HFin : Hid (readN (oneT s) n (q2 : Int) = some (xs.map (·.1), q)) := Lib.hid (by
        rw [← HRD.out, hjn, Nat.sub_self]
        simp [readN, Forms.ahead])
      have hfair : Fair (xs.map (·.1)) := ⟨by rw [List.length_map, HXL.out]; omega, fun t ht => by
        obtain ⟨x, hx, rfl⟩ := List.mem_map.1 ht
        exact HFX.out x hx⟩
      have HR := Lib.hid (refRightS_any _ _ wr htr hfair)
      obtain ⟨M, hM⟩ : ∃ M, M = xs.map (·.1) := ⟨_, rfl⟩
      rw [← hM] at HR HTR HFin
      clear htr hfair hM
      cases hr : rightS M with
      | false =>
        have HE : Hid (keepS (readN (oneT s) n (q2 : Int)) = none) := Lib.hid (by rw [HFin.out]; simp [keepS, hr])
        rw [hr] at HR
        clear hr
        go_wp2_with fail
        with_reducible refine HR.out.mono ?_
        rintro e w2 ⟨rfl, hb2⟩
        go_wp2
        go_ret3
        rw [HE.out]
        exact ⟨rfl, grows hb hb2⟩
      | true =>
        have HE : Hid (keepS (readN (oneT s) n (q2 : Int)) = some (M, q)) := Lib.hid (by rw [HFin.out]; simp [keepS, hr])
        rw [hr] at HR
        clear hr
        go_wp2_with fail
        with_reducible refine HR.out.mono ?_
        rintro e w2 ⟨rfl, hb2⟩
        go_wp2
        go_ret3
        rw [HE.out]
        exact ⟨⟨_, rfl, HTR.out.below hb2⟩, grows hb hb2⟩

theorem refGetS_any (s : ByteArray) (hs : s.size ≤ 1048576) (p : Int) (w : World) :
    Calls Tryd.prog 12 #[.string s, .int .i64 p] w (TellsG (getS s p) w) := by
  unfold getS
  cases hg : Wire.getV s.data.toList p with
  | none => exact refGet_fails s p 0 0 false (.inl rfl) w (Lib.hid (Wire.refGet_no s (by omega) p hg))
  | some a =>
    simp only
    by_cases h4 : 4 < a.1
    · rw [if_pos h4]
      exact refGet_fails s p a.1 a.2 true (.inr h4) w (Lib.hid (Wire.refGet_yes s (by omega) p a.1 a.2 hg))
    · rw [if_neg h4]
      exact refGet_go s hs p a.1 a.2 (by omega) hg w
end Go.Proofs.YtcgknkbigbbfdaaDoor.Sel

/-
  demesnelaw05.SelTells, for every input that a machine can hold: sel tells of every selector, text and place what the document's own answer tells (the law answers true, and its arguments read as before).
  Conditions: the bulk of what comes in (the statement's second form); what the row lists, tied by the card.
-/
namespace Go.Proofs.YtcgknkbigbbfdaaDoor.selTells
open Go.RowKit Go.Proofs.YtcgknkbigbbfdaaDoor.Sel Go.Proofs.YtcgknkbigbbfdaaDoor.Texts Go.Proofs.YtcgknkbigbbfdaaDoor.Boxes Go.Proofs.YtcgknkbigbbfdaaDoor.Label Go.Proofs.YtcgknkbigbbfdaaDoor.Forms Go.Proofs.YtcgknkbigbbfdaaDoor.Word

theorem fair_right {ls : List Tm} (h : rightS ls = true) : Sel.Fair ls := by
  obtain ⟨h4, ht⟩ := rightS_parts h
  refine ⟨by omega, fun t htm => ?_⟩
  obtain ⟨h1, h2, h3, _⟩ := rightT_parts (ht t htm)
  exact ⟨by have := name_size h1; omega, by omega, fun x hx => by have := name_size (h3 x hx); omega⟩
def listG : Option (List Tm × Int) → List Tm
  | none => []
  | some x => x.1
def placeG : Option (List Tm × Int) → Int
  | none => 0
  | some x => x.2
theorem flatG {r : Option (List Tm × Int)} {w : World} {e : Ending} {w' : World} (h : Sel.TellsG r w e w') : (∃ v, e = .returned (.tuple #[v, .int .i64 (placeG r), .bool r.isSome]) ∧ TRow w' v (listG r)) ∧ Below w.heap.size w w' := by
  obtain ⟨h1, h2⟩ := h
  refine ⟨?_, h2⟩
  cases r with
  | none => exact ⟨_, h1, TRow.nil _⟩
  | some x => obtain ⟨v, h3, h4⟩ := h1; exact ⟨v, h3, h4⟩
def listP : Option (List Tm) → List Tm
  | none => []
  | some x => x
theorem flatP {r : Option (List Tm)} {w : World} {e : Ending} {w' : World} (h : TellsS r w e w') : (∃ v, e = .returned (.tuple #[v, .bool r.isSome]) ∧ TRow w' v (listP r)) ∧ Below w.heap.size w w' := by
  obtain ⟨h1, h2⟩ := h
  refine ⟨?_, h2⟩
  cases r with
  | none => exact ⟨_, h1, TRow.nil _⟩
  | some x => obtain ⟨v, h3, h4⟩ := h1; exact ⟨v, h3, h4⟩
theorem few_get (s : ByteArray) (p : Int) : rightS (listG (getS s p)) = true := by
  cases h : getS s p with
  | none => rfl
  | some x => obtain ⟨ls, n⟩ := x; exact (get_back h).1
theorem few_parse (s : ByteArray) : rightS (listP (parseS s)) = true := by
  cases h : parseS s with
  | none => rfl
  | some x => exact (parse_back h).1

set_option maxHeartbeats 8000000 in
set_option maxRecDepth 100000 in
theorem walk (lv : Value) (L : List Tm) (hl : L.length ≤ 1048576) (hlz : ∀ t ∈ L, t.1.size ≤ 1048576 ∧ t.2.2.length ≤ 1048576 ∧ ∀ x ∈ t.2.2, x.size ≤ 1048576) (mv : Value) (M : List Tm) (hm : M.length ≤ 1048576) (_hmz : ∀ t ∈ M, t.1.size ≤ 1048576 ∧ t.2.2.length ≤ 1048576 ∧ ∀ x ∈ t.2.2, x.size ≤ 1048576)
    (pv : Value) (ps : List Pr) (hp : ps.length ≤ 1048576) (_hpz : ∀ x ∈ ps, x.1.size ≤ 1048576 ∧ x.2.size ≤ 1048576) (s : ByteArray) (hs : s.size ≤ 1048576) (at' : Int) (_ha1 : -9223372036854775808 ≤ at') (_ha2 : at' ≤ 9223372036854775807) (text : ByteArray) (ht : text.size ≤ 1048576) (w : World) (hE : Err w) (hlv : TRow w lv L) (hmv : TRow w mv M) (hpv : Row w pv ps) :
    Calls Tryd.prog 3 #[lv, mv, pv, .string s, .int .i64 at', .string text] w fun e w' => e = .returned (.bool true) ∧ Below w.heap.size w w' := by
  have hFL : Sel.Fair L := ⟨by omega, fun t ht => by obtain ⟨h1, h2, h3⟩ := hlz t ht; exact ⟨by omega, by omega, fun x hx => by have := h3 x hx; omega⟩⟩
  have HX := Lib.hid (examples_any w hE)
  have HE : Hid (∀ W, Below w.heap.size w W → Err W) := Lib.hid fun W h => hE.below h
  have HS : Hid (∀ W v (ls : List Tm), ls.length ≤ 1048576 → TRow W v ls → Calls Tryd.prog 10 #[v] W fun e w' => (∃ u, e = .returned u ∧ TRow w' u ls) ∧ Below W.heap.size W w') := Lib.hid fun W v ls hz h => refS_any v ls W h hz
  have HSm : Hid (∀ W u v (ls : List Tm), Sel.Fair ls → TRow W u ls → TRow W v ls → Calls Tryd.prog 15 #[u, v] W fun e w' => e = .returned (.bool true) ∧ Below W.heap.size W w') := Lib.hid fun W u v ls hf h1 h2 => by
    have := refSame_any u v ls ls W h1 h2 hf
    rw [decide_eq_true (rfl : ls = ls)] at this
    exact this
  have hGr := few_get s at'
  have hPr := few_parse text
  have HG1 : Hid (∀ W, Err W → Calls Tryd.prog 11 #[.string s, .int .i64 at'] W fun e w' => (∃ v, e = .returned (.tuple #[v, .int .i64 (placeG (getS s at')), .bool (getS s at').isSome]) ∧ TRow w' v (listG (getS s at'))) ∧ Below W.heap.size W w') := Lib.hid fun W h => (get_any s (by omega) at' W h).mono fun e w' h => flatG h
  have HG2 : Hid (∀ W, Calls Tryd.prog 12 #[.string s, .int .i64 at'] W fun e w' => (∃ v, e = .returned (.tuple #[v, .int .i64 (placeG (getS s at')), .bool (getS s at').isSome]) ∧ TRow w' v (listG (getS s at'))) ∧ Below W.heap.size W w') := Lib.hid fun W => (refGetS_any s hs at' W).mono fun e w' h => flatG h
  have HP1 : Hid (∀ W, Err W → Calls Tryd.prog 13 #[.string text] W fun e w' => (∃ v, e = .returned (.tuple #[v, .bool (parseS text).isSome]) ∧ TRow w' v (listP (parseS text))) ∧ Below W.heap.size W w') := Lib.hid fun W h => (parse_any text (by omega) W h).mono fun e w' h => flatP h
  have HP2 : Hid (∀ W, Calls Tryd.prog 14 #[.string text] W fun e w' => (∃ v, e = .returned (.tuple #[v, .bool (parseS text).isSome]) ∧ TRow w' v (listP (parseS text))) ∧ Below W.heap.size W w') := Lib.hid fun W => (refParseS_any text ht W).mono fun e w' h => flatP h
  obtain ⟨X, hX⟩ : ∃ x, x = listG (getS s at') := ⟨_, rfl⟩
  obtain ⟨n, hn⟩ : ∃ x, x = placeG (getS s at') := ⟨_, rfl⟩
  obtain ⟨b, hb⟩ : ∃ x, x = (getS s at').isSome := ⟨_, rfl⟩
  obtain ⟨Y, hY⟩ : ∃ x, x = listP (parseS text) := ⟨_, rfl⟩
  obtain ⟨c, hc⟩ : ∃ x, x = (parseS text).isSome := ⟨_, rfl⟩
  rw [← hX, ← hn, ← hb] at HG1 HG2
  rw [← hX] at hGr
  rw [← hY, ← hc] at HP1 HP2
  rw [← hY] at hPr
  have HFX := Lib.hid (fair_right hGr)
  have HFY := Lib.hid (fair_right hPr)
  have HXl : Hid (X.length ≤ 1048576) := Lib.hid (by have := (rightS_parts hGr).1; omega)
  have HYl : Hid (Y.length ≤ 1048576) := Lib.hid (by have := (rightS_parts hPr).1; omega)
  have HR1 : Hid (∀ W v, TRow W v L → Calls Tryd.prog 16 #[v] W fun e w' => e = .returned (.bool (rightS L)) ∧ Below W.heap.size W w') := Lib.hid fun W v h => right_sel v L W h hFL
  have HR2 : Hid (∀ W v, TRow W v L → Calls Tryd.prog 17 #[v] W fun e w' => e = .returned (.bool (rightS L)) ∧ Below W.heap.size W w') := Lib.hid fun W v h => refRightS_any v L W h hFL
  have HM1 : Hid (∀ W v u, TRow W v L → Row W u ps → Calls Tryd.prog 18 #[v, u] W fun e w' => e = .returned (.bool (matchS (findL ps) L)) ∧ Below W.heap.size W w') := Lib.hid fun W v u h h2 => match_any v L u ps W h hFL h2 (by omega)
  have HM2 : Hid (∀ W v u, TRow W v L → Row W u ps → Calls Tryd.prog 19 #[v, u] W fun e w' => e = .returned (.bool (matchS (findL ps) L)) ∧ Below W.heap.size W w') := Lib.hid fun W v u h h2 => refMatch_any v L u ps W h hFL h2 (by omega)
  have HRL : Hid (∀ W v, Row W v ps → Calls Tryd.prog 20 #[v] W fun e w' => (∃ u, e = .returned u ∧ Row w' u ps) ∧ Below W.heap.size W w') := Lib.hid fun W v h => refL_rows v ps W h (by omega)
  have HS1 : Hid (∀ W v u, TRow W v L → TRow W u M → Calls Tryd.prog 21 #[v, u] W fun e w' => e = .returned (.bool (decide (L = M))) ∧ Below W.heap.size W w') := Lib.hid fun W v u h h2 => Sel.same_any v u L M W h h2 hFL
  have HS2 : Hid (∀ W v u, TRow W v L → TRow W u M → Calls Tryd.prog 15 #[v, u] W fun e w' => e = .returned (.bool (decide (L = M))) ∧ Below W.heap.size W w') := Lib.hid fun W v u h h2 => refSame_any v u L M W h h2 hFL
  have HU1 : Hid (∀ W v, TRow W v L → Calls Tryd.prog 22 #[v] W fun e w' => e = .returned (.string (putS L)) ∧ Below W.heap.size W w') := Lib.hid fun W v h => put_sel v L W h hFL
  have HU2 : Hid (∀ W v, TRow W v L → Calls Tryd.prog 23 #[v] W fun e w' => e = .returned (.string (putS L)) ∧ Below W.heap.size W w') := Lib.hid fun W v h => refPutS_any v L W h hFL
  have HT1 : Hid (∀ W v, TRow W v L → Calls Tryd.prog 24 #[v] W fun e w' => e = .returned (.string (textS L)) ∧ Below W.heap.size W w') := Lib.hid fun W v h => text_sel v L W h hFL
  have HT2 : Hid (∀ W v, TRow W v L → Calls Tryd.prog 25 #[v] W fun e w' => e = .returned (.string (textS L)) ∧ Below W.heap.size W w') := Lib.hid fun W v h => refTextS_any v L W h hFL
  obtain ⟨R, hR⟩ : ∃ x, x = rightS L := ⟨_, rfl⟩
  obtain ⟨Q, hQ⟩ : ∃ x, x = matchS (findL ps) L := ⟨_, rfl⟩
  obtain ⟨D, hD⟩ : ∃ x, x = decide (L = M) := ⟨_, rfl⟩
  obtain ⟨PL, hPL⟩ : ∃ x, x = putS L := ⟨_, rfl⟩
  obtain ⟨TL, hTL⟩ : ∃ x, x = textS L := ⟨_, rfl⟩
  rw [← hR] at HR1 HR2
  rw [← hQ] at HM1 HM2
  rw [← hD] at HS1 HS2
  rw [← hPL] at HU1 HU2
  rw [← hTL] at HT1 HT2
  have y1 : (n != n) = false := by simp
  have y2 : (b != b) = false := by simp
  have y3 : (c != c) = false := by simp
  have y4 : (R == R) = true := by simp
  have y5 : (Q == Q) = true := by simp
  have y6 : (D == D) = true := by simp
  have y7 : (PL.toList == PL.toList) = true := by simp
  have y8 : (TL.toList == TL.toList) = true := by simp
  have HLl := Lib.hid hl
  have HMl := Lib.hid hm
  have VL := Lib.hid hlv
  have VM := Lib.hid hmv
  have VP := Lib.hid hpv
  clear hR hQ hD hPL hTL hX hn hb hY hc hGr hPr hFL hE hlz hl hm hlv hmv hpv
  go_enter Tryd.func3, Tryd.ntmps3
  go_wp2_with fail
  with_reducible refine HX.out.mono ?_
  rintro e w1 ⟨rfl, b1⟩
  go_wp2_with fail
  with_reducible refine (HS.out _ _ _ HLl.out (VL.out.below b1)).mono ?_
  rintro e w2 ⟨⟨vr, rfl, hvr⟩, k2⟩
  have b2 := grows b1 k2
  clear k2 b1
  go_wp2_with fail
  with_reducible refine (HG1.out _ (HE.out _ b2)).mono ?_
  rintro e w3 ⟨⟨vx, rfl, hvx⟩, k3⟩
  have VR3 := Lib.hid (hvr.below k3)
  have VX3 := Lib.hid hvx
  have b3 := grows b2 k3
  clear k3 b2 hvr hvx
  go_wp2_with fail
  with_reducible refine (HG2.out _).mono ?_
  rintro e w4 ⟨⟨vy, rfl, hvy⟩, k4⟩
  have VR4 := Lib.hid (VR3.out.below k4)
  have VX4 := Lib.hid (VX3.out.below k4)
  have VY4 := Lib.hid hvy
  have b4 := grows b3 k4
  clear k4 b3 VR3 VX3 hvy
  go_wp2_with fail
  with_reducible refine (HP1.out _ (HE.out _ b4)).mono ?_
  rintro e w5 ⟨⟨vz, rfl, hvz⟩, k5⟩
  have VR5 := Lib.hid (VR4.out.below k5)
  have VX5 := Lib.hid (VX4.out.below k5)
  have VY5 := Lib.hid (VY4.out.below k5)
  have VZ5 := Lib.hid hvz
  have b5 := grows b4 k5
  clear k5 b4 VR4 VX4 VY4 hvz
  go_wp2_with fail
  with_reducible refine (HP2.out _).mono ?_
  rintro e w6 ⟨⟨vw, rfl, hvw⟩, k6⟩
  have VR6 := Lib.hid (VR5.out.below k6)
  have VX6 := Lib.hid (VX5.out.below k6)
  have VY6 := Lib.hid (VY5.out.below k6)
  have VZ6 := Lib.hid (VZ5.out.below k6)
  have VW6 := Lib.hid hvw
  have b6 := grows b5 k6
  clear k6 b5 VR5 VX5 VY5 VZ5 hvw HG1 HG2 HP1 HP2
  go_wp2_with fail
  with_reducible refine (HS.out _ _ _ HXl.out VX6.out).mono ?_
  rintro e w7 ⟨⟨vx2, rfl, hx2⟩, k7⟩
  have VX7 := Lib.hid hx2
  clear hx2
  go_wp2_with fail
  with_reducible refine (HSm.out _ _ _ _ HFX.out VX7.out (VY6.out.below k7)).mono ?_
  rintro e w8 ⟨rfl, k8⟩
  have k8 := grows k7 k8
  clear k7
  go_wp2_with fail
  with_reducible refine (HS.out _ _ _ HYl.out (VZ6.out.below k8)).mono ?_
  rintro e w9 ⟨⟨vz2, rfl, hz2⟩, k9⟩
  have VZ9 := Lib.hid hz2
  have k9 := grows k8 k9
  clear hz2 k8
  go_wp2_with fail
  with_reducible refine (HSm.out _ _ _ _ HFY.out VZ9.out (VW6.out.below k9)).mono ?_
  rintro e wa ⟨rfl, ka⟩
  have ka := grows k9 ka
  have ba := grows b6 ka
  have VRa := Lib.hid (VR6.out.below ka)
  have VLa := Lib.hid (VL.out.below ba)
  have VMa := Lib.hid (VM.out.below ba)
  have VPa := Lib.hid (VP.out.below ba)
  clear k9 ka b6 VX6 VY6 VZ6 VW6 VX7 VZ9 VR6 HSm
  go_wp2_with fail
  with_reducible refine (HR1.out _ _ VLa.out).mono ?_
  rintro e wb ⟨rfl, kb⟩
  go_wp2_with fail
  with_reducible refine (HR2.out _ _ (VRa.out.below kb)).mono ?_
  rintro e wc ⟨rfl, kc⟩
  have kc := grows kb kc
  clear kb
  go_wp2_with fail
  with_reducible refine (HM1.out _ _ _ (VLa.out.below kc) (VPa.out.below kc)).mono ?_
  rintro e wd ⟨rfl, kd⟩
  have kd := grows kc kd
  clear kc
  go_wp2_with fail
  with_reducible refine (HRL.out _ _ (VPa.out.below kd)).mono ?_
  rintro e we ⟨⟨vq, rfl, hvq⟩, ke⟩
  have VQ := Lib.hid hvq
  have ke := grows kd ke
  clear kd hvq
  go_wp2_with fail
  with_reducible refine (HM2.out _ _ _ (VRa.out.below ke) VQ.out).mono ?_
  rintro e wf ⟨rfl, kf⟩
  have kf := grows ke kf
  clear ke
  go_wp2_with fail
  with_reducible refine (HS1.out _ _ _ (VLa.out.below kf) (VMa.out.below kf)).mono ?_
  rintro e wg ⟨rfl, kg⟩
  have kg := grows kf kg
  clear kf
  go_wp2_with fail
  with_reducible refine (HS.out _ _ _ HMl.out (VMa.out.below kg)).mono ?_
  rintro e wh ⟨⟨vm, rfl, hvm⟩, kh⟩
  have VMM := Lib.hid hvm
  have kh := grows kg kh
  clear kg hvm
  go_wp2_with fail
  with_reducible refine (HS2.out _ _ _ (VRa.out.below kh) VMM.out).mono ?_
  rintro e wi ⟨rfl, ki⟩
  have ki := grows kh ki
  clear kh
  go_wp2_with fail
  with_reducible refine (HU1.out _ _ (VLa.out.below ki)).mono ?_
  rintro e wj ⟨rfl, kj⟩
  have kj := grows ki kj
  clear ki
  go_wp2_with fail
  with_reducible refine (HU2.out _ _ (VRa.out.below kj)).mono ?_
  rintro e wk ⟨rfl, kk⟩
  have kk := grows kj kk
  clear kj
  go_wp2_with fail
  with_reducible refine (HT1.out _ _ (VLa.out.below kk)).mono ?_
  rintro e wl ⟨rfl, kl⟩
  have kl := grows kk kl
  clear kk
  go_wp2_with fail
  with_reducible refine (HT2.out _ _ (VRa.out.below kl)).mono ?_
  rintro e wm ⟨rfl, km⟩
  have km := grows kl km
  clear kl
  go_wp2
  go_ret
  exact ⟨rfl, grows ba km⟩

open Go.ChangeShapes Go.WideShapes Go.ChangeAt
set_option maxRecDepth 100000 in
theorem contract (H : Type) (enc : TypeId × Value → H) (W : World) (base : Nat) (args : Array Value) (ds gs : List (DataW H)) (before : List MemPlace)
    (hval : ∀ (j : Nat) t v, Tryd.f3.params[j]? = some t → args[j]? = some v → Value.okWide Tryd.prog W .any base t v)
    (hW : DataW.Whole enc Tryd.prog Tryd.f3.params.toList Rows.selTellsSpec.vars false W args.toList ds gs before) (hk : Rows.uptoSmall H (ds ++ gs) = true) (hL : laidMetH Tryd.prog Rows.selTellsUptoRow.laid W) :
    Calls Tryd.prog 3 args W fun e W' => ∃ v, e = .returned v ∧ Rows.selTellsSpec.post enc Tryd.prog Tryd.f3 false true false false W args v W' := by
  have hW' := hW
  obtain ⟨p, q, hA0, hV, rfl, hfz, hnd⟩ := hW
  have hA : DataW.TrodAll enc Tryd.prog W 0 (fun _ => true) true Tryd.f3.params.toList args.toList ds p := hA0
  rw [Tryd.params3] at hA hval
  obtain ⟨v0, vs0, d0, ds0, p0, q0, hargs, rfl, rfl, h0, r0⟩ := trodAll_cons hA
  obtain ⟨v1, vs1, d1, ds1, p1, q1, rfl, rfl, rfl, h1, r1⟩ := trodAll_cons r0
  obtain ⟨v2, vs2, d2, ds2, p2, q2, rfl, rfl, rfl, h2, r2⟩ := trodAll_cons r1
  obtain ⟨v3, vs3, d3, ds3, p3, q3, rfl, rfl, rfl, h3, r3⟩ := trodAll_cons r2
  obtain ⟨v4, vs4, d4, ds4, p4, q4, rfl, rfl, rfl, h4, r4⟩ := trodAll_cons r3
  obtain ⟨v5, vs5, d5, ds5, p5, q5, rfl, rfl, rfl, h5, r5⟩ := trodAll_cons r4
  obtain ⟨rfl, rfl, rfl⟩ := trodAll_nil r5
  obtain rfl : args = #[v0, v1, v2, v3, v4, v5] := by cases args; simp_all
  obtain ⟨rfl, rfl⟩ := trodVars_none hV
  obtain ⟨a0, w0, g0⟩ := Sel.open_terms Tryd.underlying22 (f0 := (Tryd.prog.fieldsOf 51)[0]!) (f1 := (Tryd.prog.fieldsOf 51)[1]!) (f2 := (Tryd.prog.fieldsOf 51)[2]!) (ts := 49) (es := 9) (by kernel_rfl) (by kernel_rfl) (by kernel_rfl) (by kernel_rfl) (by kernel_rfl) (by kernel_rfl) (by kernel_rfl) (by kernel_rfl) (by kernel_rfl) (by kernel_rfl) (by kernel_rfl) (by kernel_rfl) (by kernel_rfl) (by kernel_rfl) (hval 0 22 v0 rfl rfl) h0
  obtain ⟨l0, m0⟩ := g0.bulk
  obtain ⟨a1, w1, g1⟩ := Sel.open_terms Tryd.underlying22 (f0 := (Tryd.prog.fieldsOf 51)[0]!) (f1 := (Tryd.prog.fieldsOf 51)[1]!) (f2 := (Tryd.prog.fieldsOf 51)[2]!) (ts := 49) (es := 9) (by kernel_rfl) (by kernel_rfl) (by kernel_rfl) (by kernel_rfl) (by kernel_rfl) (by kernel_rfl) (by kernel_rfl) (by kernel_rfl) (by kernel_rfl) (by kernel_rfl) (by kernel_rfl) (by kernel_rfl) (by kernel_rfl) (by kernel_rfl) (hval 1 22 v1 rfl rfl) h1
  obtain ⟨l1, m1⟩ := g1.bulk
  obtain ⟨a2, w2, l2, m2⟩ := Label.open_pairs_upto Tryd.underlying23 (f0 := (Tryd.prog.fieldsOf 56)[0]!) (f1 := (Tryd.prog.fieldsOf 56)[1]!) (by kernel_rfl) (by kernel_rfl) (by kernel_rfl) (by kernel_rfl) (by kernel_rfl) (by kernel_rfl) (by kernel_rfl) (by kernel_rfl) (hval 2 23 v2 rfl rfl) h2
  obtain ⟨a3, rfl, rfl, rfl, _⟩ := Go.ChangeMaps.open_string Tryd.underlying9 (hval 3 9 v3 rfl rfl) h3
  obtain ⟨a4, rfl, rfl, rfl, w4⟩ := open_int Tryd.underlying3 (hval 4 3 v4 rfl rfl) h4
  obtain ⟨a5, rfl, rfl, rfl, _⟩ := Go.ChangeMaps.open_string Tryd.underlying9 (hval 5 9 v5 rfl rfl) h5
  have hB : Rows.uptoBulkAll ([d0, d1, d2, .lit (.string a3.data.toList), .lit (.int .i64 a4), .lit (.string a5.data.toList)] ++ []) ≤ 1048576 := of_decide_eq_true hk
  simp only [List.append_nil, Rows.uptoBulkAll, Rows.uptoBulk] at hB
  have z3 : a3.data.toList.length = a3.size := Array.length_toList
  have b4 := bounds_i64 w4
  have z5 : a5.data.toList.length = a5.size := Array.length_toList
  refine (walk v0 a0 (by omega) (fun x hx => by have := m0 x hx; exact ⟨by omega, by omega, fun y hy => by have := this.2.2 y hy; omega⟩) v1 a1 (by omega) (fun x hx => by have := m1 x hx; exact ⟨by omega, by omega, fun y hy => by have := this.2.2 y hy; omega⟩) v2 a2 (by omega) (fun x hx => by have := m2 x hx; omega) a3 (by omega) a4 b4.1 b4.2 a5 (by omega) W (Sel.err_met (by kernel_rfl) hL) w0 w1 w2).mono fun e W' ⟨he, hb⟩ => ?_
  subst he
  exact ⟨_, rfl, Ends.law_end Ends.laidOut (by rw [Tryd.params3]; decide +kernel) rfl (by kernel_rfl) Tryd.underlying4 hW' rfl hb⟩

set_option maxRecDepth 100000 in
theorem lifted (os : Os) (started : os.Started) (H : Type) (enc : TypeId × Value → H) (F : Stop.Interp) :
    ReturnsInHanded {} Tryd.checked os 3 .any (fun w args => ((Rows.OpenSpec.upto Rows.selTellsSpec).pre enc Tryd.prog Tryd.f3 Rows.selTellsUptoRow.domain false w args ∧ laidMetH Tryd.prog Rows.selTellsUptoRow.laid w) ∧ sizedMet enc Tryd.prog Tryd.f3 (Rows.OpenSpec.upto Rows.selTellsSpec) false w args) (((Rows.OpenSpec.upto Rows.selTellsSpec).at F).post enc Tryd.prog Tryd.f3 false true false false) := by
  refine Upto.handed (C := Tryd.checked) (s := Rows.OpenSpec.upto Rows.selTellsSpec) (k := Rows.uptoSmall) (X := fun w => laidMetH Tryd.prog Rows.selTellsUptoRow.laid w) rfl (fun _ _ hh h => h.of_heap hh) Ends.own started (by kernel_rfl) Tryd.func3
    (Upto.witness (enc := enc) (C := Tryd.checked) (os := os) (s := Rows.OpenSpec.upto Rows.selTellsSpec) (k := Rows.uptoSmall) rfl (X := fun w => laidMetH Tryd.prog Rows.selTellsUptoRow.laid w) false (World.laidAll Tryd.prog os Rows.selTellsUptoRow.laid) #[.slice none 0 0, .slice none 0 0, .slice none 0 0, .string ⟨#[]⟩, .int .i64 0, .string ⟨#[]⟩] 8 (World.laidAll_os _ _ _)
      (World.shaped_of_ZipB (by kernel_rfl) (by kernel_rfl)) (by kernel_rfl) (x := ([.nil, .nil, .nil, .lit (.string []), .lit (.int .i64 0), .lit (.string [])], [], [])) (by kernel_rfl) rfl (by kernel_rfl) (by kernel_rfl)
      (by rw [MakeChecks.laidMetH_plain _ _ _ (by kernel_rfl)]; exact laidMet_laidAll _ (by kernel_rfl) (by kernel_rfl))) ?_
  intro W base args ds gs before hval hW hk hL
  exact contract H enc W base args ds gs before hval hW hk hL

theorem row : Rows.SelTellsUptoSaid :=
  OpenClaim.holds_of_cond 3 Tryd.f3 rfl rfl rfl rfl rfl rfl rfl ⟨rfl, rfl, rfl, rfl, rfl⟩ rfl rfl rfl rfl rfl (by kernel_rfl) Tryd.func3 (by kernel_rfl)
    (of_decide_eq_true (by kernel_rfl)) (by unfold Func.isWrapper; first | (rw [if_pos (by decide +kernel)]; kernel_rfl) | (rw [if_neg (by decide +kernel)]; exact ⟨rfl, rfl⟩))
    (fun os started H enc _ F => lifted os started H enc F)

/-- The statement: the tied card. -/
theorem proved : Rows.SelTellsUptoCardSaid :=
  Claim7.holds_tied_plain_at .later [] [.data, .sentinel, .pinned] true Rows.selTellsUptoCard.stood.harness true row (fun _ h => by cases h) (by kernel_rfl) (fun _ h => by cases h) selTellsUpto_row_tie rfl ⟨rfl, rfl⟩ (by kernel_rfl) rfl
    (fun f fn hf hfn => by
      obtain rfl : f = 3 := Option.some.inj ((show Tryd.prog.funcNamed "demesne/demesnelaw05.SelTells" = some 3 by kernel_rfl).symm.trans hf) |>.symm
      obtain rfl : fn = Tryd.f3 := (Option.some.inj (Tryd.func3.symm.trans hfn)).symm
      exact ⟨by kernel_rfl, fun j t ht => by
        rw [Tryd.params3] at ht
        have hm : t ∈ [22, 22, 23, 9, 3, 9] := by simpa using Array.mem_of_getElem? ht
        have hall : ([22, 22, 23, 9, 3, 9].all fun u => !Tryd.prog.wantsStandIn u) = true := by kernel_rfl
        exact (show Tryd.prog.wantsStandIn t = false by simpa using List.all_eq_true.1 hall t hm)⟩)
    (by kernel_rfl)
end Go.Proofs.YtcgknkbigbbfdaaDoor.selTells
