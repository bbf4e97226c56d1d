/- What the document's own Parse answers of any text that is not too long for a machine; of memory that was there nothing turns. -/
import Derived.Test.YtbilkeadhflibaaGreatDoorSRefV
import Derived.Test.YtbilkeadhflibaaGreatDoorSRefT
import Derived.Test.YtbilkeadhflibaaGreatDoorJL4
namespace Go.Proofs.YtbilkeadhflibaaGreatDoor.Sel
open Go.RowKit Go.Proofs.YtbilkeadhflibaaGreatDoor.Texts Go.Proofs.YtbilkeadhflibaaGreatDoor.Word Go.Proofs.YtbilkeadhflibaaGreatDoor.Forms Go.Proofs.YtbilkeadhflibaaGreatDoor.Boxes Go.Proofs.YtbilkeadhflibaaGreatDoor.Label

/-- A selector that is made: its own row, and what stands in it. -/
structure Made5 (B : Nat) (w : World) (v : Value) (xs : List (Tm × Value)) : Prop where
  own : w.ownsRow B 108 3 v xs.length (tvals xs)
  terms : In (Beside B v) w xs
theorem Made5.trow {B : Nat} {w : World} {v : Value} {xs : List (Tm × Value)} (h : Made5 B w v xs) : TRow w v (xs.map (·.1)) := own_trow h.own fun x hx => (h.terms x hx).1
theorem Made5.start (B : Nat) (w : World) : Made5 B w (.slice none 0 0) [] := ⟨World.ownsRow_nil _ _ _ _, fun x hx => by simp at hx⟩
/-- One more term, appended. -/
theorem Made5.step {B : Nat} {w w3 w4 : World} {v : Value} {xs : List (Tm × Value)} {t : Tm} {s : Value} {g cap : Nat} {o : Obj} (h : Made5 B w v xs) (hBw : B ≤ w.heap.size) (h3 : Below w.heap.size w w3) (hs : SNew w.heap.size w3 s t.2.2)
    (hown : w4.ownsRow B 108 3 (.slice (some ⟨g, 0, none⟩) (xs.length + 1) cap) (xs.length + 1) (tvals xs ++ tcells (t, s)))
    (hgrow : (w3.alloc o).grownBy w4 v.ownBlock) (hat : v.ownBlock = some g ∨ g = w3.heap.size + 1) :
    Made5 B w4 (.slice (some ⟨g, 0, none⟩) (xs.length + 1) cap) (xs ++ [(t, s)]) ∧ Below B w w4 := by
  have hvo : ∀ k, v.ownBlock = some k → B ≤ k ∧ k < w.heap.size := fun k hk => h.own.lt k hk
  have hsz : w3.heap.size + 1 ≤ w4.heap.size := by have := hgrow.size; rw [size_alloc] at this; exact this
  have h3s := h3.size
  have keep3 : ∀ k, k < w3.heap.size → v.ownBlock ≠ some k → w4.heap[k]? = w3.heap[k]? := fun k hk ho => by
    rw [hgrow.block k (by rw [size_alloc]; omega) (fun e => ho e.symm)]
    exact Below.heap_alloc _ _ _ hk
  have hg : v.ownBlock = some g ∨ w3.heap.size < g := hat.imp id (by omega)
  refine ⟨⟨?_, ?_⟩, ?_⟩
  · rw [List.length_append, tvals_snoc]
    exact hown
  · refine In.snoc ?_ ?_
    · refine h.terms.kept (by omega) fun k ⟨hk1, hk2⟩ hk3 => ⟨(keep3 k (by omega) hk2).trans (h3.block k hk3), hk1, ?_⟩
      rcases hg with hg | hg
      · intro e
        simp [Value.ownBlock] at e
        subst e
        exact hk2 hg
      · intro e
        simp [Value.ownBlock] at e
        omega
    · refine hs.sin.kept (by omega) fun k hk1 hk3 => ⟨keep3 k hk3 (fun e => by have := hvo k e; omega), by omega, ?_⟩
      rcases hg with hg | hg
      · intro e
        simp [Value.ownBlock] at e
        subst e
        have := hvo _ hg
        omega
      · intro e
        simp [Value.ownBlock] at e
        omega
  · have h4 : Below B w (w3.alloc o) := (h3.mono hBw).alloc (by omega) _
    exact h4.grown hgrow (by rw [size_alloc]; omega) (fun k hk => (hvo k hk).1)

theorem readT_fair {q : List UInt8} (h : q.length ≤ 1048576) : (readT q).1.size ≤ 4611686018427387904 ∧ (readT q).2.2.length ≤ 4611686018427387904 ∧ ∀ x ∈ (readT q).2.2, x.size ≤ 4611686018427387904 := by
  unfold readT
  split
  · refine ⟨?_, by simp, fun x hx => by simp at hx⟩
    simp only
    rw [str_len, List.length_tail]; omega
  · split
    · refine ⟨?_, by simp, fun x hx => by simp at hx⟩
      simp only
      rw [str_len]; omega
    · rename_i x hx
      have h2 := two_some hx
      have hl := (cuts_len 61 q).2
      rw [h2] at hl
      have ha := hl x.1 (by simp)
      have hb := hl x.2 (by simp)
      obtain ⟨l1, l2⟩ := cuts_len 124 x.2
      have hv : ∀ y ∈ (cuts 124 x.2).map str, y.size ≤ 4611686018427387904 := fun y hy => by
        obtain ⟨z, hz, rfl⟩ := List.mem_map.1 hy
        have := l2 z hz
        rw [str_len]; omega
      split
      · refine ⟨?_, ?_, hv⟩
        · simp only
          rw [str_len, List.length_dropLast]; omega
        · simp only
          rw [List.length_map]; omega
      · refine ⟨?_, ?_, hv⟩
        · simp only
          rw [str_len]; omega
        · simp only
          rw [List.length_map]; omega

set_option maxHeartbeats 4000000 in
set_option maxRecDepth 100000 in
theorem refParse_on (s : ByteArray) (hs : s.size ≤ 1048576) (hd : (s.toList == [45]) = false) (ps : List (List UInt8)) (hps : cuts 44 s.data.toList = ps) (w : World) (O : Option (List Tm)) (HO : Hid (O = if rightS (ps.map readT) = true ∧ textS (ps.map readT) = s then some (ps.map readT) else none)) :
    Calls Tryz.prog 41 #[.string s] w (TellsS O w) := by
  obtain ⟨i0, hi, hz0, hz1, hz2⟩ := info_parts infoT5
  have hls := size_list s
  obtain ⟨pl1, pl2⟩ := cuts_len 44 s.data.toList
  rw [hps] at pl1 pl2
  have hpl : ps.length ≤ 1048577 := by omega
  have HL : Hid (∀ q ∈ ps, q.length ≤ 1048576) := Lib.hid fun q hq => by have := pl2 q hq; omega
  have HC : Hid (∀ W, Calls Tryz.prog 85 #[.string s, .int .u8 44] W fun e w' => (∃ v, e = .returned v ∧ SRow w' v (ps.map str)) ∧ Below W.heap.size W w') := Lib.hid fun W => by
    refine (cut_new 44 44 rfl s hs W).mono ?_
    rintro e w' ⟨⟨v, rfl, h⟩, hb⟩
    rw [hps] at h
    exact ⟨⟨v, rfl, h.row⟩, hb⟩
  have HFair : Hid (Fair (ps.map readT)) := Lib.hid ⟨by rw [List.length_map]; omega, fun t ht => by
    obtain ⟨q, hq, rfl⟩ := List.mem_map.1 ht
    exact readT_fair (HL.out q hq)⟩
  clear pl1 pl2 hps hls
  go_enter Tryz.func41, Tryz.ntmps41
  go_wp2_with fail
  with_reducible refine (HC.out _).mono ?_
  rintro e w1 ⟨⟨v, rfl, hrow⟩, hb1⟩
  obtain ⟨a, cap, rfl, _, _⟩ := hrow.slice
  rw [List.length_map] at hrow ⊢
  have HRow := Lib.hid hrow
  clear hrow
  go_wp2_with fail
  go_loopw [4, 6] (fun t i wr => ∃ (k : Nat) (xs : List (Tm × Value)), k ≤ ps.length ∧ i = .int .i64 k ∧ xs.length = k ∧ xs.map (·.1) = (ps.take k).map readT ∧ Made5 w1.heap.size wr t xs ∧ Below w1.heap.size w1 wr) (fun _ i _ => ps.length - (intOf i).toNat)
  case atStart => exact ⟨0, [], Nat.zero_le _, rfl, rfl, rfl, Made5.start _ _, Below.refl _ _⟩
  case round =>
    obtain ⟨k, xs, hk, rfl, hxl, hxm, hmk, hb⟩ := hrel
    have HXL := Lib.hid hxl
    have HXM := Lib.hid hxm
    have HMK := Lib.hid hmk
    clear hxl hxm hmk
    by_cases hlt : k < ps.length
    · have hltz : (k : Int) < (ps.length : Int) := by omega
      have hk0 : (0 : Int) ≤ (k : Int) := by omega
      obtain ⟨g, o, rfl, hg, hcell⟩ := (HRow.out.below hb).cells (k := k) (by rw [List.length_map]; exact hlt)
      obtain ⟨q, hq⟩ : ∃ q, ps[k]? = some q := ⟨_, List.getElem?_eq_getElem hlt⟩
      have hc := hcell k (str q) (by rw [List.getElem?_map, hq]; rfl)
      have HQ := Lib.hid hq
      have HT : Hid (∀ W, Calls Tryz.prog 86 #[.string (str q)] W (OneR (readT q) W)) := Lib.hid fun W => by
        have h := refOne_any (str q) (by rw [str_len]; exact HL.out q (List.mem_of_getElem? hq)) W
        rw [str_toList] at h
        exact h
      have hbs := hb.size
      have HLz : Hid (xs.length + 1 ≤ maxLen ∧ (xs.length + 1) * 48 ≤ 140737488355328) := Lib.hid (by have := HXL.out; unfold maxLen; omega)
      obtain ⟨t, htq⟩ : ∃ t, t = readT q := ⟨_, rfl⟩
      have HTQ := Lib.hid htq
      rw [← htq] at HT
      clear hq hcell htq
      go_wp2_with fail
      with_reducible refine (HT.out _).mono ?_
      rintro e w2 ⟨⟨v2, rfl, s2, rfl, hs2⟩, hb2⟩
      obtain ⟨sa, sc, rfl, _, _⟩ := hs2.row.slice
      have HS2 := Lib.hid hs2
      have hb2s := hb2.size
      clear hs2
      go_wp2_with (at_builtin; refine wpList_append_lies _ rfl _ _ 31 rfl w1.heap.size 108 i0 (.agg #[.string ByteArray.empty, .bool false, .slice none 0 0]) 3 48 Tryz.underlying31 hi hz0 hz1 hz2 rfl (by decide) _ _ _ rfl (World.ownsRow.alloc (own_below HMK.out.own hb2) _) ⟨w2.heap.size, 0, none⟩ 1 1 [.string t.1, .bool t.2.1, .slice sa t.2.2.length sc] rfl rfl (new3 w2 _ _ _ _) (one3 _ _ _ _ _) (by decide) HLz.out.1 HLz.out.2 (by rw [size_alloc]; omega) (w2.heap.size + 1) (size_alloc _ _) ?_)
      intro g5 cap5 w5 hown5 hgrow5 hat5 _
      obtain ⟨hm5, hb5⟩ := HMK.out.step hbs hb2 HS2.out hown5 hgrow5 hat5
      have HM5 := Lib.hid hm5
      have hb6 : Below w1.heap.size w1 w5 := hb.trans hb5
      clear hown5 hgrow5 hat5 hm5 hb5 hc
      go_wp2
      go_roundw
      case rel => exact ⟨k + 1, xs ++ [(t, .slice sa t.2.2.length sc)], by omega, by go_num, by rw [List.length_append, HXL.out]; rfl, by rw [List.map_append, HXM.out, List.take_add_one, HQ.out, List.map_append, HTQ.out]; rfl, HM5.out, hb6⟩
      case measure => simp [intOf]; omega
    · obtain rfl : k = ps.length := by omega
      have htr : TRow wr u4 (ps.map readT) := by
        have := HMK.out.trow
        rw [HXM.out, List.take_length] at this
        exact this
      have HTR := Lib.hid htr
      have HR := Lib.hid (refRightS_any _ _ wr htr HFair.out)
      have HTx : Hid (∀ W, Below wr.heap.size wr W → Calls Tryz.prog 87 #[u4] W fun e w' => e = .returned (.string (textS (ps.map readT))) ∧ Below W.heap.size W w') := Lib.hid fun W h => refTextS_any _ _ W (htr.below h) HFair.out
      obtain ⟨M, hM⟩ : ∃ M, M = ps.map readT := ⟨_, rfl⟩
      rw [← hM] at HR HTx HTR HO
      have hbF := grows hb1 hb
      clear htr hM
      cases hr : rightS M with
      | false =>
        have HE : Hid (O = none) := Lib.hid (HO.out.trans <| if_neg (by rw [hr]; simp))
        rw [hr] at HR
        clear hr
        go_wp2_with fail
        with_reducible refine HR.out.mono ?_
        rintro e w2 ⟨rfl, hb2⟩
        go_wp2
        go_ret2
        rw [HE.out]
        exact ⟨rfl, grows hbF hb2⟩
      | true =>
        rw [hr] at HR
        obtain ⟨X, hX⟩ : ∃ X, X = textS M := ⟨_, rfl⟩
        rw [← hX] at HTx
        by_cases hXs : X = s
        · have HE : Hid (O = some M) := Lib.hid (HO.out.trans <| if_pos ⟨hr, by rw [← hX]; exact hXs⟩)
          have hc1 : (X.toList == s.toList) = true := by rw [hXs]; simp
          clear hr hX hXs
          go_wp2_with fail
          with_reducible refine HR.out.mono ?_
          rintro e w2 ⟨rfl, hb2⟩
          go_wp2_with fail
          with_reducible refine (HTx.out _ hb2).mono ?_
          rintro e w3 ⟨rfl, hb3⟩
          have hbb := grows hb2 hb3
          go_wp2
          go_ret2
          rw [HE.out]
          exact ⟨⟨_, rfl, HTR.out.below hbb⟩, grows hbF hbb⟩
        · have HE : Hid (O = none) := Lib.hid (HO.out.trans <| if_neg (by rw [← hX]; exact fun h => hXs h.2))
          have hc1 : (X.toList == s.toList) = false := by rw [beq_str]; exact decide_eq_false hXs
          clear hr hX hXs
          go_wp2_with fail
          with_reducible refine HR.out.mono ?_
          rintro e w2 ⟨rfl, hb2⟩
          go_wp2_with fail
          with_reducible refine (HTx.out _ hb2).mono ?_
          rintro e w3 ⟨rfl, hb3⟩
          have hbb := grows hb2 hb3
          go_wp2
          go_ret2
          rw [HE.out]
          exact ⟨rfl, grows hbF hbb⟩

set_option maxHeartbeats 1000000 in
set_option maxRecDepth 100000 in
theorem refParse_dash (s : ByteArray) (hd : (s.toList == [45]) = true) (w : World) :
    Calls Tryz.prog 41 #[.string s] w (TellsS (some []) w) := by
  go_enter Tryz.func41, Tryz.ntmps41
  go_wp2
  go_ret2
  exact ⟨⟨_, rfl, TRow.nil _⟩, Below.refl _ _⟩
theorem refParseS_any (s : ByteArray) (hs : s.size ≤ 1048576) (w : World) : Calls Tryz.prog 41 #[.string s] w (TellsS (parseS s) w) := by
  have hbs : (s.toList == [45]) = decide (s = ⟨#[45]⟩) := by
    have h := beq_str s ⟨#[45]⟩
    rw [Lib.toList_data ⟨#[45]⟩] at h
    exact h
  unfold parseS
  by_cases h : s = ⟨#[45]⟩
  · rw [if_pos h]
    exact refParse_dash s (by rw [hbs]; exact decide_eq_true h) w
  · rw [if_neg h]
    exact refParse_on s hs (by rw [hbs]; exact decide_eq_false h) _ rfl w _ (Lib.hid rfl)
end Go.Proofs.YtbilkeadhflibaaGreatDoor.Sel
