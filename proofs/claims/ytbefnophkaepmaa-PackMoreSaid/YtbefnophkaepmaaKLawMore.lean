/- PackMore: where more fit fewer do, on the first of the same nodes; and with one slot more that none of it may use: the walk, over what the calls say. -/
import Derived.Test.YtbefnophkaepmaaKTurn
namespace Go.Proofs.Ytbefnophkaepmaa.Pack
open Go.RowKit Go.Proofs.Ytbefnophkaepmaa.Label Go.Proofs.Ytbefnophkaepmaa.Sel Go.Proofs.Ytbefnophkaepmaa.Vec Go.Proofs.Ytbefnophkaepmaa.Texts

/-- The first so many of a row of texts. -/
theorem take_texts {w : World} {a : Option Addr} {n cap : Nat} {ls : List ByteArray} (h : SRow w (.slice a n cap) ls) (k : Nat) (hk : k ≤ ls.length) : SRow w (.slice a k cap) (ls.take k) := by
  obtain ⟨a', cap', e, hc, hm⟩ := h.slice
  injection e with e1 e2 e3
  subst e1; subst e2; subst e3
  by_cases hz : ls.take k = []
  · have : k = 0 ∨ ls = [] := by simpa using hz
    have hk0 : k = 0 := by rcases this with h | h; exact h; subst h; simpa using hk
    subst hk0
    exact .inl ⟨hz, _, _, rfl, by simpa using hm⟩
  · have hk0 : k ≠ 0 := fun e => hz (by rw [e]; rfl)
    obtain ⟨g, o, rfl, hg, hcell⟩ := h.cells (k := 0) (by omega)
    refine .inr ⟨hz, g, o, cap, ?_, hg, by rw [List.length_take]; omega, hm, fun j x hj => ?_⟩
    · simp [Nat.min_eq_left hk]
    · rw [List.getElem?_take] at hj
      split at hj
      · exact hcell j x hj
      · cases hj
def noneS : Slot := { node := ⟨#[110, 111, 110, 101]⟩, free := fun _ => 0, labs := [] }
theorem noneS_ok : noneS.ok := ⟨fun i _ => by show 0 ≤ (0 : Int) ∧ (0 : Int) ≤ _; decide, by show 0 ≤ _; decide⟩
theorem nodesOf_take (ls : List Slot) (js : List Nat) (k : Nat) : nodesOf ls (js.take k) = (nodesOf ls js).take k := by unfold nodesOf; rw [List.map_take]
theorem fit_lt {d : V} {n : Nat} {l : List Sl} {js : List Nat} {r : List Sl} (h : fitL d n l = some (js, r)) : ∀ j ∈ js, j < l.length := fun j hj => by
  obtain ⟨i, hi⟩ := List.mem_iff_getElem?.1 hj
  obtain ⟨s, hs, _⟩ := bestL_some (fit_best h i j hi)
  have := (List.getElem?_eq_some_iff.1 hs).1
  rw [leftAt_length] at this
  exact this
theorem nodesOf_more {ls : List Slot} {x : Slot} {js : List Nat} (h : ∀ j ∈ js, j < ls.length) : nodesOf (ls ++ [x]) js = nodesOf ls js := by
  unfold nodesOf
  refine List.map_congr_left fun j hj => ?_
  rw [List.getElem?_append_left (h j hj)]

set_option maxHeartbeats 4000000 in
set_option maxRecDepth 100000 in
theorem packMore_any (S : Says) (v u : Value) (ls : List Slot) (ts : List Tm) (d : Nat → Int) (n q : Int) (w : World) (hv : SlRow w v ls) (hu : TRow w u ts) (hf : Sel.Fair ts) (hd : InRange d) (hz : (ls.length + 1) * 72 ≤ 140737488355328) (hn : 0 ≤ n ∧ n ≤ 255) (hq : 0 ≤ q ∧ q ≤ 255) :
    Calls Try.prog 7 #[v, u, vec (d 0) (d 1) (d 2) (d 3), .int .u8 n, .int .u8 q] w fun e w' => e = .returned (.bool true) ∧ Below w.heap.size w w' := by
  obtain ⟨a, cap, rfl, _, _⟩ := hv.slice
  obtain ⟨W, hW⟩ : ∃ W, W = w.alloc (boxV d) := ⟨_, rfl⟩
  have hwW : Below w.heap.size w W := by rw [hW]; exact (Below.refl _ _).alloc (Nat.le_refl _) _
  have hWs : W.heap.size = w.heap.size + 1 := by rw [hW]; simp
  have HB := Lib.hid (show W.heap[w.heap.size]? = some (boxV d) from by rw [hW]; exact heap_alloc_new _ _)
  have HV0 := Lib.hid (hv.below hwW)
  have HV := Lib.hid (fun w' (h : Below W.heap.size W w') => HV0.out.below h)
  have HU := Lib.hid (fun w' (h : Below W.heap.size W w') => (hu.below hwW).below h)
  have HX := Lib.hid (examples_any S W)
  have HD := Lib.hid hd
  obtain ⟨c, hc⟩ : ∃ c : Nat, (c : Int) = n % 9 := ⟨(n % 9).toNat, by omega⟩
  have hc8 : c ≤ 8 := by omega
  obtain ⟨k, hk⟩ : ∃ k : Nat, (k : Int) = q % (n % 9 + 1) := ⟨(q % (n % 9 + 1)).toNat, by have := Int.emod_nonneg q (show n % 9 + 1 ≠ 0 by omega); omega⟩
  have hkc : k ≤ c := by have := Int.emod_lt_of_pos q (show 0 < n % 9 + 1 by omega); omega
  have CFit := Lib.hid (fun (x : Value) (xs : List Slot) (p : Nat) w' (hx : SlRow w' x xs) (hxl : xs.length * 72 ≤ 140737488355328) (hb : Below W.heap.size W w') (hp : p ≤ 8) => (by
    have := S.fit x u xs ts d (p : Int) w' hx (HU.out w' hb) hf hd hxl (by omega)
    rw [show fitX d (p : Int) (seenAll ts xs) = fitL d p (seenAll ts xs) from by unfold fitX; rw [if_neg (by omega)]; rfl] at this
    exact this : Calls Try.prog 10 #[x, u, vec (d 0) (d 1) (d 2) (d 3), .int .i64 (p : Int)] w' fun e w'' => FitTold xs (fitL d p (seenAll ts xs)) e w'' ∧ Below w'.heap.size w' w''))
  have HZ := Lib.hid hz
  have HW := Lib.hid hW
  unfold vec at CFit
  unfold vec
  unfold boxV at HW
  clear hv hu hf hd hz hW S
  go_enter Try.func7, Try.ntmps7
  go_upto_region 1 with fail
  rw [← HW.out]
  clear HW
  go_wp2_with fail
  (with_reducible refine HX.out.mono ?_)
  rintro _ w1 ⟨rfl, b1⟩
  clear HX
  obtain ⟨d0, d1, d2, d3, _⟩ := cells4V ((b1.block _ (by omega : w.heap.size < W.heap.size)).trans HB.out)
  go_wp2_with fail
  rw [← hc]
  (with_reducible refine (CFit.out _ ls c _ (HV.out _ b1) (by have := HZ.out; omega) b1 hc8).mono ?_)
  rintro _ w2 ⟨hf1, b2⟩
  have k2 := b1.trans (b2.mono b1.size)
  obtain ⟨fo, rfl, hfo⟩ := fitTold_open hf1
  have HFo := Lib.hid hfo
  obtain ⟨fb, hfb⟩ : ∃ fb, (fitL d c (seenAll ts ls)).isSome = fb := ⟨_, rfl⟩
  rw [hfb]
  clear d0 d1 d2 d3 b1 b2 hf1 hfo
  obtain ⟨d0, d1, d2, d3, _⟩ := cells4V ((k2.block _ (by omega : w.heap.size < W.heap.size)).trans HB.out)
  go_wp2_with fail
  rw [← hk, ← hc]
  (with_reducible refine (CFit.out _ ls k _ (HV.out _ k2) (by have := HZ.out; omega) k2 (by omega)).mono ?_)
  rintro _ w3 ⟨hf2, b3⟩
  have k3 := k2.trans (b3.mono k2.size)
  obtain ⟨go, rfl, hgo⟩ := fitTold_open hf2
  have HGo := Lib.hid hgo
  have HFo3 := Lib.hid (HFo.out.below b3)
  obtain ⟨gb, hgb⟩ : ∃ gb, (fitL d k (seenAll ts ls)).isSome = gb := ⟨_, rfl⟩
  rw [hgb]
  have HCn := Lib.hid hc
  clear d0 d1 d2 d3 k2 b3 hf2 hgo HFo hk hc hq
  have HEnd := Lib.hid (hwW.trans (k3.mono hwW.size))
  cases fb with
  | false =>
    go_wp2
    go_ret
    exact ⟨rfl, HEnd.out⟩
  | true =>
    obtain ⟨⟨js, r⟩, hjs⟩ : ∃ p, fitL d c (seenAll ts ls) = some p := Option.isSome_iff_exists.1 hfb
    obtain ⟨r', hjk⟩ := fit_fewer k hjs hkc
    have hgt : gb = true := by rw [← hgb, hjk]; rfl
    subst hgt
    have hjl : js.length = c := (fit_length hjs).1
    have hrow1 : rowsOf ls (fitL d c (seenAll ts ls)) = nodesOf ls js := by rw [hjs]; rfl
    have hrow2 : rowsOf ls (fitL d k (seenAll ts ls)) = (nodesOf ls js).take k := by rw [hjk]; exact nodesOf_take ls js k
    rw [hrow1] at HFo3
    rw [hrow2] at HGo
    obtain ⟨fa, fc, rfl, hfc, _⟩ := HFo3.out.slice
    rw [nodesOf_length, hjl] at HFo3 hfc
    have HTk := Lib.hid (take_texts HFo3.out k (by rw [nodesOf_length]; omega))
    have hkfc : (k : Int) ≤ (fc : Int) := by omega
    have hk0 : (0 : Int) ≤ (k : Int) := by omega
    rw [nodesOf_length, hjl]
    -- one slot more
    obtain ⟨ys, hys, hread, hyr⟩ := SRead.of HV0.out
    have hyl : ys.length = ls.length := by rw [← hys, List.length_map]
    obtain ⟨v4, w4, hrun4, hm4, hb4⟩ := sappend (w := w3) (B := w3.heap.size) Try.underlying22 infoS (SMine.nil 47 w3 w3.heap.size) (SRead.behind HV0.out hread k3) (fun p hp => (by obtain ⟨x, y, e⟩ := Label.Row.slice (hyr p hp).1; exact ⟨x, _, y, e⟩)) (by rw [List.length_nil]; have := HZ.out; omega) (Nat.le_refl _) 22
    rw [List.nil_append] at hm4
    have h34 : w3.heap.size ≤ w4.heap.size := hb4.size
    obtain ⟨C, hC⟩ : ∃ C, C = w4.alloc (.cells #[.string ⟨#[110, 111, 110, 101]⟩, .int .u64 0, .int .u64 0, .int .u64 0, .int .u64 0, .slice none 0 0] 47) := ⟨_, rfl⟩
    have hCb : Below w4.heap.size w4 C := by rw [hC]; exact (Below.refl _ _).alloc (Nat.le_refl _) _
    have hone : SMine 47 C w4.heap.size (.slice (some ⟨w4.heap.size, 0, none⟩) 1 1) [(noneS, .slice none 0 0)] := by
      rw [hC]; exact SMine.one 47 w4 (Nat.le_refl _) noneS (.slice none 0 0)
    obtain ⟨v5, w5, hrun5, hm5, hb5⟩ := sappend Try.underlying22 infoS (hm4.below hCb) hone.read (fun p hp => (by rw [List.mem_singleton.1 hp]; exact ⟨_, _, _, rfl⟩)) (by rw [List.length_cons, List.length_nil, hyl]; exact HZ.out) (by have := hCb.size; omega) 22
    have h35 : Below w3.heap.size w3 w5 := (hb4.trans (hCb.mono h34)).trans hb5
    have k5 := k3.trans (h35.mono k3.size)
    have hys5 : (ys ++ [(noneS, Value.slice none 0 0)]).map (·.1) = ls ++ [noneS] := by rw [List.map_append, hys]; rfl
    have hsl5 : SlRow w5 v5 (ls ++ [noneS]) := (own_lrow (w0 := W) hm5 hys5 (fun p hp => by
      rcases List.mem_append.1 hp with hp | hp
      · exact hyr p hp
      · rw [List.mem_singleton.1 hp]; exact ⟨.inl ⟨rfl, _, _, rfl, Nat.zero_le _⟩, noneS_ok⟩)).slrow k5
    have HC3 := Lib.hid (CFit.out v5 (ls ++ [noneS]) c w5 hsl5 (by rw [List.length_append]; exact HZ.out) k5 hc8)
    have HFo5 := Lib.hid (HFo3.out.below h35)
    have HGo5 := Lib.hid (HGo.out.below h35)
    have HTk5 := Lib.hid (HTk.out.below h35)
    have HJs := Lib.hid hjs
    rw [hC] at hrun5
    clear hC hCb hone hm4 hm5 hb4 hb5 h34 h35 hys5 hsl5 hys hread hyr hyl hjs hjk hrow1 hrow2 hgb hfb hfc HFo3 HGo HTk k3 CFit
    obtain ⟨d0, d1, d2, d3, _⟩ := cells4V ((k5.block _ (by omega : w.heap.size < W.heap.size)).trans HB.out)
    go_wp2_with (at_builtin; first | refine Lib.wpList_append_run _ rfl _ _ _ _ rfl _ _ rfl rfl _ _ hrun4 ?_ | refine Lib.wpList_append_run _ rfl _ _ _ _ rfl _ _ rfl rfl _ _ hrun5 ?_)
    rw [← HCn.out]
    (with_reducible refine HC3.out.mono ?_)
    rintro _ w6 ⟨hf3, b6⟩
    have k6 := k5.trans (b6.mono k5.size)
    have HFo6 := Lib.hid (HFo5.out.below b6)
    have HGo6 := Lib.hid (HGo5.out.below b6)
    have HTk6 := Lib.hid (HTk5.out.below b6)
    obtain ⟨ho, rfl, hho⟩ := fitTold_open hf3
    have HHo := Lib.hid hho
    obtain ⟨hb', hhb⟩ : ∃ hb', (fitL d c (seenAll ts (ls ++ [noneS]))).isSome = hb' := ⟨_, rfl⟩
    rw [hhb]
    have HTx := Lib.hid (fun z (h : Below w6.heap.size w6 z) => texts_rows go (.slice fa k fc) _ _ z (HGo6.out.below h) (HTk6.out.below h))
    rw [show decide ((nodesOf ls js).take k = (nodesOf ls js).take k) = true from decide_eq_true rfl] at HTx
    clear d0 d1 d2 d3 hf3 b6 hho hrun4 hrun5 HC3 HFo5 HGo5 HTk5 HGo6 HTk6 k5
    obtain ⟨d0, d1, d2, d3, _⟩ := cells4V ((k6.block _ (by omega : w.heap.size < W.heap.size)).trans HB.out)
    go_wp2_with fail
    (with_reducible refine (HTx.out _ (Below.refl _ _)).mono ?_)
    rintro _ w7 ⟨rfl, b7⟩
    have HEnd7 := Lib.hid (hwW.trans ((k6.trans (b7.mono k6.size)).mono hwW.size))
    have k7 := k6.trans (b7.mono k6.size)
    have HFo7 := Lib.hid (HFo6.out.below b7)
    have HHo7 := Lib.hid (HHo.out.below b7)
    clear d0 d1 d2 d3 b7 HTx HFo6 HHo k6 HEnd
    obtain ⟨d0, d1, d2, d3, _⟩ := cells4V ((k7.block _ (by omega : w.heap.size < W.heap.size)).trans HB.out)
    by_cases hz0 : d 0 = 0 ∧ d 1 = 0 ∧ d 2 = 0 ∧ d 3 = 0
    · obtain ⟨z0, z1, z2, z3⟩ := hz0
      rw [z0] at d0
      rw [z1] at d1
      rw [z2] at d2
      rw [z3] at d3
      clear z0 z1 z2 z3 hhb
      have heq : ∀ w, (Op.equalIn 10000 26 (.agg #[.int .u64 0, .int .u64 0, .int .u64 0, .int .u64 0]) (.agg #[.int .u64 0, .int .u64 0, .int .u64 0, .int .u64 0])).run Try.prog w = .ok true w := fun w => (equal_vec 9998 0 0 0 0 0 0 0 0 w).trans rfl
      go_wp2
      go_ret
      exact ⟨rfl, HEnd7.out⟩
    · have hcand : cand d (seen ts noneS) = false := cand_nothing (fun i hi => (HD.out i hi).1) (fun h => hz0 ⟨h 0 (by decide), h 1 (by decide), h 2 (by decide), h 3 (by decide)⟩)
      have hmore : fitL d c (seenAll ts (ls ++ [noneS])) = some (js, r ++ [seen ts noneS]) := by
        unfold seenAll
        rw [List.map_append]
        show fitL d c (seenAll ts ls ++ [seen ts noneS]) = _
        rw [fit_more hcand, HJs.out]
        rfl
      have hbt : hb' = true := by rw [← hhb, hmore]; rfl
      subst hbt
      have hlt : ∀ j ∈ js, j < ls.length := fun j hj => by
        have := fit_lt HJs.out j hj
        unfold seenAll at this
        rwa [List.length_map] at this
      have hrow3 : rowsOf (ls ++ [noneS]) (fitL d c (seenAll ts (ls ++ [noneS]))) = nodesOf ls js := by rw [hmore]; exact nodesOf_more hlt
      rw [hrow3] at HHo7
      have HT2 := Lib.hid (texts_rows (.slice fa c fc) ho _ _ w7 HFo7.out HHo7.out)
      rw [show decide (nodesOf ls js = nodesOf ls js) = true from decide_eq_true rfl] at HT2
      have hne : same (d 0) (d 1) (d 2) (d 3) 0 0 0 0 = false := by
        cases hs : same (d 0) (d 1) (d 2) (d 3) 0 0 0 0
        · rfl
        · exact absurd (by simpa [same, and_assoc] using hs) hz0
      have heq : ∀ w, (Op.equalIn 10000 26 (.agg #[.int .u64 (d 0), .int .u64 (d 1), .int .u64 (d 2), .int .u64 (d 3)]) (.agg #[.int .u64 0, .int .u64 0, .int .u64 0, .int .u64 0])).run Try.prog w = .ok false w := fun w => (equal_vec 9998 _ _ _ _ 0 0 0 0 w).trans (by rw [hne])
      clear hcand hmore hlt hrow3 hhb hne hz0
      go_wp2_with fail
      (with_reducible refine HT2.out.mono ?_)
      rintro _ w8 ⟨rfl, b8⟩
      have HEnd8 := Lib.hid (hwW.trans ((k7.trans (b8.mono k7.size)).mono hwW.size))
      clear d0 d1 d2 d3 b8 k7
      go_wp2
      go_ret
      exact ⟨rfl, HEnd8.out⟩
end Go.Proofs.Ytbefnophkaepmaa.Pack
