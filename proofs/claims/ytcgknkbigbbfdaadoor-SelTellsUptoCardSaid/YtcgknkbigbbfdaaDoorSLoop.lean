/- What sel.Parse answers of a text of at most four pieces: piece by piece. -/
import Derived.Test.YtcgknkbigbbfdaaDoorSIn
import Derived.RegionDies
namespace Go.Proofs.YtcgknkbigbbfdaaDoor.Sel
open Go.RowKit Go.Proofs.YtcgknkbigbbfdaaDoor.Texts Go.Proofs.YtcgknkbigbbfdaaDoor.Word Go.Proofs.YtcgknkbigbbfdaaDoor.Forms Go.Proofs.YtcgknkbigbbfdaaDoor.Split Go.Proofs.YtcgknkbigbbfdaaDoor.Boxes

/-- What the pieces tell. -/
def told (ps : List (List UInt8)) : Option (List Tm) := if ps.all (fun q => rightT (readP q)) = true then some (ps.map readP) else none
theorem told_no {ps : List (List UInt8)} {k : Nat} {q : List UInt8} (hq : ps[k]? = some q) (h : rightT (readP q) = false) : told ps = none := by
  unfold told
  rw [if_neg]
  intro ha
  have := List.all_eq_true.1 ha q (List.mem_of_getElem? hq)
  rw [h] at this
  cases this

set_option maxHeartbeats 2000000 in
set_option maxRecDepth 100000 in
theorem parse_few (s : ByteArray) (hs : s.size ≤ 4611686018427387904) (hd : (s.toList == [45]) = false) (ps : List (List UInt8)) (hps : cuts 44 s.data.toList = ps) (h4 : ps.length ≤ 4) (w : World) (hE : Err w) : Calls Tryd.prog 13 #[.string s] w (TellsS (told ps) w) := by
  obtain ⟨i0, hi, hz0, hz1, hz2⟩ := info_parts infoT
  have hmf : ∀ (fn : Fn) (first cap : Array Value) (w : World), (Instr.makeFunc fn first cap).run Tryd.prog w = .ok (.func fn first cap) w := fun _ _ _ _ => rfl
  have HE : Hid (∀ W, Below w.heap.size w W → Err W) := Lib.hid fun W h => hE.below h
  have HS := Lib.hid (split_new 44 s hs (by rw [hps]; exact h4))
  rw [hps] at HS
  have hlen : ∀ q ∈ ps, q.length ≤ s.size := fun q hq => by rw [← size_list]; rw [← hps] at hq; exact (cuts_len 44 s.data.toList).2 q hq
  have HL := Lib.hid hlen
  clear hE hps hlen
  go_enter_defers Tryd.func13, Tryd.ntmps13
  go_wp2_with fail
  refine (HS.out _).mono ?_
  rintro e w1 ⟨⟨pa, pc, rfl, hpv⟩, hb1⟩
  have h0 := keep (keep (fresh w _) (old _ _)) hb1
  have h1 := keep (fresh1 w _ _) hb1
  have hb := grows (grows (grew w _) (grew _ _)) hb1
  rw [size_alloc, size_alloc] at hpv
  rw [List.length_map] at hpv ⊢
  have HP0 : Hid (SIn (fun g => w.heap.size + 1 < g ∧ g < w1.heap.size) w1 (.slice pa ps.length pc) (ps.map str)) := Lib.hid (by
    refine ⟨hpv.1, fun g o n c e hn => ⟨by have := hpv.2 g o n c e hn; omega, ?_⟩⟩
    rcases hpv.1 with ⟨h, _⟩ | ⟨_, g', o', c', h1, h2, _⟩
    · exact absurd h hn
    · rw [e] at h1
      injection h1 with h1 _ _
      injection h1 with h1
      injection h1 with h1 _ _
      omega)
  have hBH : w.heap.size + 1 < w1.heap.size := lt_of h1
  have HM0 : Hid (Making w.heap.size w1.heap.size w1 (.slice none 0 0) []) := Lib.hid ⟨h0, World.ownsRow_nil _ _ _ _, fun x hx => by simp at hx⟩
  have H1 := Lib.hid h1
  have HB := Lib.hid hb
  obtain ⟨B, hBe⟩ : ∃ B, B = w1.heap.size := ⟨_, rfl⟩
  rw [← hBe] at HP0 HM0 hBH
  have hBw : B ≤ w1.heap.size := by omega
  clear h0 h1 hb hpv hb1 hBe
  go_wp2_with fail
  go_loopw [12] (fun i wr => ∃ (k : Nat) (v : Value) (xs : List (Tm × Value)), k ≤ ps.length ∧ i = .int .i64 k ∧ xs.length = k ∧ xs.map (·.1) = (ps.take k).map readP ∧ (ps.take k).all (fun q => rightT (readP q)) = true ∧ Making w.heap.size B wr v xs ∧ wr.heap[w.heap.size + 1]? = some (.cells #[.bool false] 4) ∧
    SIn (fun g => w.heap.size + 1 < g ∧ g < B) wr (.slice pa ps.length pc) (ps.map str) ∧ B ≤ wr.heap.size ∧ Below w.heap.size w wr) (fun i _ => ps.length - (intOf i).toNat)
  case atStart => exact ⟨0, _, [], Nat.zero_le _, rfl, rfl, rfl, rfl, HM0.out, H1.out, HP0.out, hBw, HB.out⟩
  case round =>
    obtain ⟨k, v, xs, hk, rfl, hxl, hxm, hall, hmk, h1, hpv, hBr, hb⟩ := hrel
    have HXL := Lib.hid hxl
    have HXM := Lib.hid hxm
    have HAll := Lib.hid hall
    have HMK := Lib.hid hmk
    have HPV := Lib.hid hpv
    have HH1 := Lib.hid h1
    clear hxl hxm hall hpv
    have hc0 := cell_at (i := 0) hmk.cell rfl
    have hlH := lt_of hmk.cell
    by_cases hlt : k < ps.length
    · have hltz : (k : Int) < (ps.length : Int) := by omega
      obtain ⟨g, o, rfl, hg, hcell⟩ := HPV.out.1.cells (k := k) (by rw [List.length_map]; exact hlt)
      obtain ⟨q, hq⟩ : ∃ q, ps[k]? = some q := ⟨_, List.getElem?_eq_getElem hlt⟩
      have hc := hcell k (str q) (by rw [List.getElem?_map, hq]; rfl)
      have HQ := Lib.hid hq
      have hql := HL.out q (List.mem_of_getElem? hq)
      obtain ⟨r, hr⟩ : ∃ r, rightT (readP q) = r := ⟨_, rfl⟩
      have HR := Lib.hid hr
      cases r with
      | true =>
        have HT : Hid (∀ W, Calls Tryd.prog 35 #[.string (str q)] W (Read (readP q) W)) := Lib.hid fun W => by
          have := parseTerm_yes (str q) (by rw [str_len]; omega) (by rw [str_toList]; exact hr) W
          rw [str_toList] at this
          exact this
        have hvf : ∃ va vn vc, v = .slice va vn vc := by
          rcases hmk.own.2 with ⟨h, _⟩ | ⟨g, cap, cur, h, _⟩
          · exact ⟨_, _, _, h⟩
          · exact ⟨_, _, _, h⟩
        obtain ⟨va, vn, vc, rfl⟩ := hvf
        obtain ⟨t, ht⟩ : ∃ t, t = readP q := ⟨_, rfl⟩
        rw [← ht] at HT
        have HTe := Lib.hid ht
        have HOw := Lib.hid hmk.own
        have HMax : Hid (xs.length + 1 ≤ maxLen ∧ (xs.length + 1) * 48 ≤ 140737488355328) := Lib.hid (by have := HXL.out; unfold maxLen; omega)
        have HKeep : Hid (∀ W, Below wr.heap.size wr W → W.cell? ⟨w.heap.size, 0, none⟩ = some (.slice va vn vc) ∧ W.frozen? ⟨w.heap.size, 0, none⟩ = false) := Lib.hid fun W h => ⟨cell_at (i := 0) (keep hmk.cell h) rfl, frozen_at (i := 0) (keep hmk.cell h)⟩
        have HKeep4 : Hid (∀ W W' o, Below wr.heap.size wr W → (W.alloc o).grownBy W' (Value.slice va vn vc).ownBlock → W'.cell? ⟨w.heap.size, 0, none⟩ = some (.slice va vn vc) ∧ W'.frozen? ⟨w.heap.size, 0, none⟩ = false) := Lib.hid fun W W' o h hg => by
          have h3 := keep (keep hmk.cell h) (old W o)
          have h4 : W'.heap[w.heap.size]? = some (.cells #[.slice va vn vc] 22) := (hg.block _ (lt_of h3) (fun e => by have := hmk.own.lt _ e.symm; omega)).trans h3
          exact ⟨cell_at (i := 0) h4 rfl, frozen_at (i := 0) h4⟩
        obtain ⟨hf0, hf1⟩ := HKeep.out wr (Below.refl _ _)
        clear hq hr hcell ht hmk h1 hf0
        obtain ⟨tk, tn, tv⟩ := t
        go_wp2_with fail
        first | (go_region_law (first
          | (refine step_append_lies _ rfl _ _ 22 rfl B 51 i0 (.agg #[.string ByteArray.empty, .bool false, .slice none 0 0]) 3 48 Tryd.underlying22 hi hz0 hz1 hz2 rfl (by decide) (.slice va vn vc) xs.length (tvals xs) rfl (own_below (own_below HOw.out hb3.out) (old w3 _)) ⟨w3.heap.size, 0, none⟩ 1 1 [.string tk, .bool tn, .slice sa tv.length sc] rfl rfl (new3 w3 _ _ _ _) (one3 _ _ _ _ _) (by decide) HMax.out.1 HMax.out.2 (by rw [size_alloc]; have := hb3.out.size; omega) (w3.heap.size + 1) (size_alloc _ _) ?_; intro g4 cap4 w4 hown4 hgrow4 hat4 _; have HOwn4 := Lib.hid hown4; have HGrow4 := Lib.hid hgrow4; have HAt4 := Lib.hid hat4; obtain ⟨e4, f4⟩ := HKeep4.out w3 w4 _ hb3.out hgrow4; clear hown4 hgrow4 hat4)
          | (go_simp; go_at_call 35; (with_reducible refine (HT.out _).mono ?_); rintro e w3 ⟨⟨v3, rfl, s3, rfl, hs3⟩, hb30⟩; obtain ⟨sa, sc, rfl, _, _⟩ := hs3.1.slice; have hb3 : Hid (Below wr.heap.size wr w3) := Lib.hid (grows ((Below.refl _ wr).drew) hb30); have HS3 : Hid (SNew wr.heap.size w3 (.slice sa tv.length sc) tv) := Lib.hid hs3; obtain ⟨e3, f3⟩ := HKeep.out w3 hb3.out; obtain ⟨e3a, f3a⟩ := HKeep.out (w3.alloc (.cells #[.string tk, .bool tn, .slice sa tv.length sc] 51)) (grows hb3.out (old _ _)); clear hb30 hs3))) | fail
        all_goals
          go_wp2
          go_roundw
          case rel =>
            obtain ⟨hm5, hk5, hsz5, _⟩ := Making.step (q := fun _ => True) (by omega) HMK.out trivial (fun _ _ => trivial) hBr hb3.out.size (fun k hk _ => hb3.out.block k hk) (t := (tk, tn, tv)) HS3.out HOwn4.out HGrow4.out HAt4.out
            have hvo : ∀ k, (Value.slice va vn vc).ownBlock = some k → B ≤ k := fun k hk => (HMK.out.own.lt k hk).1
            refine ⟨k + 1, _, _, by omega, by go_num, ?_, ?_, ?_, hm5, ?_, ?_, ?_, ?_⟩
            · rw [List.length_append, HXL.out]; rfl
            · rw [List.map_append, HXM.out, List.take_add_one, HQ.out, List.map_append, Option.toList_some, List.map_cons, List.map_nil, List.map_cons, List.map_nil, ← HTe.out]
            · rw [List.take_add_one, HQ.out, List.all_append, HAll.out, Option.toList_some]; simp [HR.out]
            · exact (hk5 _ (by omega) trivial (by omega) (fun e => by have := hvo _ e; omega)).trans HH1.out
            · exact HPV.out.kept (by simpa using hsz5) fun g ⟨hg1, hg2⟩ hg3 => ⟨hk5 g hg3 trivial (by omega) (fun e => by have := hvo _ e; omega), hg1, hg2⟩
            · simp; omega
            · have b3 := hb.trans (hb3.out.mono hb.size)
              exact ((b3.alloc b3.size _).grown HGrow4.out (by rw [size_alloc]; have := b3.size; omega) (fun k hk => by have := hvo k hk; omega)).setCell (Nat.le_refl _) _
          case measure => simp [intOf]; omega
      | false =>
        have HT : Hid (∀ W, Below wr.heap.size wr W → Calls Tryd.prog 35 #[.string (str q)] W fun e w' => Falls e ∧ Below W.heap.size W w') := Lib.hid fun W h => parseTerm_no (str q) (by rw [str_len]; omega) (by rw [str_toList]; exact hr) W (HE.out W (grows hb h))
        have HN : Hid (told ps = none) := Lib.hid (told_no hq hr)
        clear hq hr hcell hmk h1
        go_wp2_with fail
        first | go_region_dies | fail
        all_goals
          with_reducible refine (HT.out _ ((Below.refl _ wr).drew)).mono ?_
          rintro e w3 ⟨⟨T3, p3, rfl⟩, hb30⟩
          have hb3 := grows ((Below.refl _ wr).drew) hb30
          clear hb30
          go_wp2
          refine leaves_cons (f := 33) (args := #[.pointer (some ⟨w.heap.size, 0, none⟩), .pointer (some ⟨w.heap.size + 1, 0, none⟩)]) (by simp) (by simp [go_sem]) ?_
          refine (parse_catch w.heap.size _ _ p3 T3 [] _ (keep HMK.out.cell hb3) (keep HH1.out hb3)).mono ?_
          rintro e u' w2 ⟨rfl, rfl, rfl⟩
          obtain ⟨d0, d1, hbz⟩ := fallen (grows hb hb3) (keep HMK.out.cell hb3) (keep HH1.out hb3)
          rw [HN.out]
          simp [Leaves, settle, results, Tryd.results13, go_sem, d0, d1]
          exact ⟨rfl, hbz⟩
    · have hltz : ¬ ((k : Int) < (ps.length : Int)) := by omega
      have hvf : ∃ va vn vc, v = .slice va vn vc := by
        rcases hmk.own.2 with ⟨h, _⟩ | ⟨g, cap, cur, h, _⟩
        · exact ⟨_, _, _, h⟩
        · exact ⟨_, _, _, h⟩
      obtain ⟨va, vn, vc, rfl⟩ := hvf
      have hf0 := frozen_at (i := 0) hmk.cell
      have a0 := heap_setCell_same wr w.heap.size 0 _ _ (.slice va vn vc) hmk.cell
      have a1 := (heap_setCell_other wr ⟨w.heap.size, 0, none⟩ (w.heap.size + 1) (.slice va vn vc) (by simp)).trans h1
      have c1 := cell_at (i := 0) a1 rfl
      have f1 := frozen_at (i := 0) a1
      have b0 := (heap_setCell_other (wr.setCell ⟨w.heap.size, 0, none⟩ (.slice va vn vc)) ⟨w.heap.size + 1, 0, none⟩ w.heap.size (.bool true) (by simp)).trans a0
      have b1 := heap_setCell_same _ (w.heap.size + 1) 0 _ _ (.bool true) a1
      have d0 := cell_at (i := 0) b0 rfl
      have d1 := cell_at (i := 0) b1 rfl
      have HBz := Lib.hid ((hb.setCell (p := ⟨w.heap.size, 0, none⟩) (Nat.le_refl _) (.slice va vn vc)).setCell (p := ⟨w.heap.size + 1, 0, none⟩) (by simp) (.bool true))
      have HZ : Hid (told ps = some (xs.map (·.1))) := Lib.hid (by
        have h1 := HAll.out
        have h2 := HXM.out
        rw [List.take_of_length_le (by omega)] at h1 h2
        unfold told
        rw [if_pos h1, h2])
      have HTR : Hid (TRow ((wr.setCell ⟨w.heap.size, 0, none⟩ (.slice va vn vc)).setCell ⟨w.heap.size + 1, 0, none⟩ (.bool true)) (.slice va vn vc) (xs.map (·.1))) := Lib.hid (own_trow (ownsRow_setCell_below (ownsRow_setCell_below HMK.out.own (by simp; omega) _) (by simp; omega) _) fun x hx => ((HMK.out.terms x hx).kept (q := fun _ => True) (by simp) fun g hg _ => ⟨by
        have := hg.1
        rw [heap_setCell_other _ _ _ _ (by simp; omega), heap_setCell_other _ _ _ _ (by simp; omega)], trivial⟩).1)
      clear a0 a1 b0 b1 hmk h1 hb
      go_wp2
      refine leaves_cons (f := 33) (args := #[.pointer (some ⟨w.heap.size, 0, none⟩), .pointer (some ⟨w.heap.size + 1, 0, none⟩)]) (by simp) (by simp [go_sem]) ?_
      refine (parse_idle _ _ _).mono ?_
      rintro e u' w2 ⟨rfl, rfl, rfl⟩
      rw [HZ.out]
      simp [Leaves, settle, results, Tryd.results13, go_sem, d0, d1]
      exact ⟨⟨_, rfl, HTR.out⟩, HBz.out⟩
end Go.Proofs.YtcgknkbigbbfdaaDoor.Sel
