import Derived.Test.YtbefnophkaepmaaPJ1
import Derived.Lib.AppendZeros
import Derived.Deep.RegionLaw
import Derived.Deep.QuietTactic
import Derived.Deep.DeepCutAuto
import Derived.OrdersHeld
import Derived.Deep.RegionHeld
import Derived.WalkKit
import Derived.Test.YtbefnophkaepmaaPV1
/- A copy of slots, appended to nothing, or one more slot appended to one's own; of memory that was there nothing turns. -/
namespace Go.Proofs.Ytbefnophkaepmaa.Pack
open Go.RowKit Go.Proofs.Ytbefnophkaepmaa.Label Go.Proofs.Ytbefnophkaepmaa.Sel Go.Proofs.Ytbefnophkaepmaa.Vec Go.Proofs.Ytbefnophkaepmaa.Texts

def zeroSl : Value := .agg #[.string ByteArray.empty, .int .u64 0, .int .u64 0, .int .u64 0, .int .u64 0, .slice none 0 0]
theorem infoS : (Try.prog.info? 47).map (fun i => (i.zero, i.size, i.bytes)) = some (some zeroSl, 6, 72) := by kernel_rfl
theorem infoRS : (Try.prog.info? 69).map (fun i => (i.zero, i.size, i.bytes)) = some (some zeroSl, 6, 72) := by kernel_rfl
abbrev SV := Slot × Value
def cellsP (p : SV) : List Value := cellsS p.1 p.2
theorem fm6_len (xs : List SV) : (xs.flatMap cellsP).length = xs.length * 6 := by
  induction xs with
  | nil => rfl
  | cons a r ih => rw [List.flatMap_cons, List.length_append, ih, List.length_cons]; simp [cellsP, cellsS]; omega
theorem fm6_get : ∀ (xs : List SV) (j : Nat) (p : SV) (i : Nat) (v : Value), xs[j]? = some p → (cellsP p)[i]? = some v → (xs.flatMap cellsP)[j * 6 + i]? = some v
  | [], j, p, i, v, h, _ => by simp at h
  | a :: r, 0, p, i, v, h, hi => by
    simp at h; subst h
    have hl : i < (cellsP a).length := (List.getElem?_eq_some_iff.1 hi).1
    rw [List.flatMap_cons, Nat.zero_mul, Nat.zero_add, List.getElem?_append_left hl]; exact hi
  | a :: r, j + 1, p, i, v, h, hi => by
    have hl : (cellsP a).length = 6 := rfl
    rw [List.flatMap_cons, List.getElem?_append_right (by rw [hl]; omega), hl, show (j + 1) * 6 + i - 6 = j * 6 + i by omega]
    exact fm6_get r j p i v (by simpa using h) hi
theorem fm6_at : ∀ (xs : List SV) (k : Nat) (u : Value), (xs.flatMap cellsP)[k]? = some u → ∃ j i p, k = j * 6 + i ∧ xs[j]? = some p ∧ (cellsP p)[i]? = some u
  | [], k, u, h => by simp at h
  | a :: r, k, u, h => by
    have hl : (cellsP a).length = 6 := rfl
    rw [List.flatMap_cons] at h
    by_cases hk : k < 6
    · rw [List.getElem?_append_left (by omega)] at h
      exact ⟨0, k, a, by omega, rfl, h⟩
    · rw [List.getElem?_append_right (by omega), hl] at h
      obtain ⟨j, i, p, h1, h2, h3⟩ := fm6_at r (k - 6) u h
      exact ⟨j + 1, i, p, by omega, by simpa using h2, h3⟩
/-- Slots with their labels' slices, found in memory. -/
theorem SCells.values {w : World} {g o : Nat} {ls : List Slot} (h : SCells w g o ls) : ∃ xs : List SV, xs.map (·.1) = ls ∧ (∀ j p, xs[j]? = some p → (∀ i v, (cellsP p)[i]? = some v → w.cell? ⟨g, o + j * 6 + i, none⟩ = some v) ∧ Row w p.2 p.1.labs ∧ p.1.ok) := by
  induction ls generalizing o with
  | nil => exact ⟨[], rfl, fun j p hj => by simp at hj⟩
  | cons s r ih =>
    obtain ⟨lv, h1, h2, h3⟩ := h 0 s rfl
    obtain ⟨xs, e, hx⟩ := ih (o := o + 6) (fun j t hj => by
      obtain ⟨lv, a, b, c⟩ := h (j + 1) t (by simpa using hj)
      refine ⟨lv, fun i v hi => ?_, b, c⟩
      have := a i v hi
      rw [show o + (j + 1) * 6 + i = o + 6 + j * 6 + i by omega] at this
      exact this)
    refine ⟨(s, lv) :: xs, by rw [List.map_cons, e], fun j p hj => ?_⟩
    cases j with
    | zero =>
      simp at hj; subst hj
      exact ⟨h1, h2, h3⟩
    | succ j =>
      obtain ⟨a, b, c⟩ := hx j p (by simpa using hj)
      refine ⟨fun i v hi => ?_, b, c⟩
      have := a i v hi
      rw [show o + 6 + j * 6 + i = o + (j + 1) * 6 + i by omega] at this
      exact this
/-- One's own row of slots, read. -/
theorem own_lrow {w0 w : World} {B : Nat} {T : TypeId} {v : Value} {xs : List SV} {ls : List Slot} (h : w.ownsRow B T 6 v xs.length (xs.flatMap cellsP)) (he : xs.map (·.1) = ls) (hx : ∀ p ∈ xs, Row w0 p.2 p.1.labs ∧ p.1.ok) : LRow w0 w B v ls := by
  have hc := fun g hg => World.ownsRow.cells h (g := g) hg
  have hlen : xs.length = ls.length := by rw [← he, List.length_map]
  rcases h.2 with ⟨rfl, h0⟩ | ⟨g, cap, cur, rfl, hB, hg, hcap, hm, hsz, htake⟩
  · refine .inl ⟨List.eq_nil_of_length_eq_zero (by rw [← hlen]; exact h0), _, _, rfl, Nat.zero_le _⟩
  · by_cases hl : ls = []
    · subst hl
      have h0 : xs.length = 0 := by simpa using hlen
      exact .inl ⟨rfl, _, _, by rw [h0], hm⟩
    · refine .inr ⟨hl, g, cap, by rw [← hlen], hB, (Array.getElem?_eq_some_iff.1 hg).1, by rw [← hlen]; exact hcap, hm, fun j s hj => ?_⟩
      rw [← he, List.getElem?_map] at hj
      cases hp : xs[j]? with
      | none => rw [hp] at hj; cases hj
      | some p =>
        rw [hp] at hj
        have hps : p.1 = s := by simpa using hj
        subst hps
        obtain ⟨a, b⟩ := hx p (List.mem_of_getElem? hp)
        refine ⟨p.2, fun i v hi => ?_, fun i hi => ?_, a, b⟩
        · have := hc g rfl _ _ (fm6_get xs j p i v hp hi)
          rw [Addr.add_lit] at this
          rw [Nat.zero_add]
          simpa using this
        · unfold World.frozen?; simp only [hg]; rfl
theorem cells_one (p : SV) {la : Option Addr} {n c : Nat} (h : p.2 = .slice la n c) : ∀ u ∈ cellsP p, u.oneCell' = true := by
  intro u hu
  simp [cellsP, cellsS, h] at hu
  rcases hu with rfl | rfl | rfl | rfl | rfl | rfl <;> rfl
/-- append(nil, l...). -/
theorem copy_row {T ts : TypeId} (ht : Try.prog.underlying ts = some (.slice T)) (hT : (Try.prog.info? T).map (fun i => (i.zero, i.size, i.bytes)) = some (some zeroSl, 6, 72)) {w : World} {u : Value} {ls : List Slot} (hr : SlRow w u ls) (hz : ls.length * 72 ≤ 140737488355328) (ty : TypeId) :
    ∃ v' w', (Builtin.append_ #[ts, ts] ty #[.slice none 0 0, u]).run Try.prog w = .ok v' w' ∧ LRow w w' w.heap.size v' ls ∧ Below w.heap.size w w' := by
  obtain ⟨i0, hi, hz0, hz1, hz2⟩ := info_parts hT
  rcases hr with ⟨rfl, ad, cap, rfl, _⟩ | ⟨_, g, o, cap, rfl, hg, hcap, hm, hcell⟩
  · refine ⟨.slice none 0 0, w, ?_, .inl ⟨rfl, _, _, rfl, Nat.zero_le _⟩, Below.refl _ _⟩
    cases ad <;> simp [Builtin.append_, run_underlying ht, sizeOf, typeInfo, hi, Builtin.lenOf, Builtin.firstCells, loadCells, loadCellsFrom]
  · obtain ⟨xs, e, hx⟩ := hcell.values
    have hlen : xs.length = ls.length := by rw [← e, List.length_map]
    obtain ⟨v', w', hr, h2, h3, _⟩ := run_append_own_at (P := Try.prog) w w.heap.size ts ty T i0 zeroSl 6 72 ht hi hz0 hz1 hz2 rfl (by decide) (.slice none 0 0) 0 [] (World.ownsRow_nil _ _ _ _) ⟨g, o, none⟩ ls.length cap (xs.flatMap cellsP) (by rw [fm6_len, hlen])
      (fun k u hk => by
        obtain ⟨j, i, p, hk', hj, hi⟩ := fm6_at xs k u hk
        rw [Addr.add_lit, hk', ← Nat.add_assoc]
        exact (hx j p hj).1 i u hi)
      (fun u hu => by
        obtain ⟨p, hp, hu⟩ := List.mem_flatMap.1 hu
        obtain ⟨j, hj⟩ := List.mem_iff_getElem?.1 hp
        obtain ⟨la, lc, hl⟩ := Label.Row.slice (hx j p hj).2.1
        exact cells_one p hl u hu)
      (by unfold maxLen; omega) (by omega) (Nat.le_refl _)
    rw [Nat.zero_add, List.nil_append, ← hlen] at h2
    refine ⟨v', w', hr, own_lrow h2 e (fun p hp => ?_), (Below.refl _ _).grown h3 (Nat.le_refl _) (fun k hk => by cases hk)⟩
    obtain ⟨j, hj⟩ := List.mem_iff_getElem?.1 hp
    exact (hx j p hj).2
end Go.Proofs.Ytbefnophkaepmaa.Pack

/- What the document's own Fit answers of any slots, selector, demand, number (chapter 13); of memory that was there nothing turns. -/
namespace Go.Proofs.Ytbefnophkaepmaa.Pack
open Go.RowKit Go.Proofs.Ytbefnophkaepmaa.Label Go.Proofs.Ytbefnophkaepmaa.Sel Go.Proofs.Ytbefnophkaepmaa.Vec Go.Proofs.Ytbefnophkaepmaa.Texts

/-- A fit as it is asked for: at most eight copies. -/
def fitX (d : V) (n : Int) (l : List Sl) : Option (List Nat × List Sl) := if 8 < n then none else fitL d n.toNat l
/-- What a fit tells: the nodes and yes, or nothing and no. -/
def FitTold (ls : List Slot) (r : Option (List Nat × List Sl)) (e : Ending) (w' : World) : Prop := match r with
  | none => e = .returned (.tuple #[.slice none 0 0, .bool false])
  | some p => ∃ o, e = .returned (.tuple #[o, .bool true]) ∧ SRow w' o (nodesOf ls p.1)
theorem placeOf_best (d : V) (l : List Sl) : placeOf (bestTo d l l.length) = match bestL d l with
    | none => -1
    | some j => (j : Int) := by
  unfold bestL
  cases bestTo d l l.length <;> rfl
theorem infoStr : (Try.prog.info? 9).map (fun i => (i.zero, i.size, i.bytes)) = some (some (.string ByteArray.empty), 1, 16) := by kernel_rfl
theorem new_one (T : TypeId) (w : World) (x : Value) : ∀ j u, [x][j]? = some u → (w.alloc (.cells #[x] T)).cell? ((⟨w.heap.size, 0, none⟩ : Addr).add j) = some u := by
  intro j u hj
  have h : (w.alloc (.cells #[x] T)).heap[w.heap.size]? = some (.cells #[x] T) := heap_alloc_new _ _
  rw [Addr.add_lit]
  match j with
  | 0 => simp at hj; subst hj; simp only [World.cell?, h]; rfl
  | (n + 1) => simp at hj
/-- A row of one's own is kept while another block is written. -/
theorem own_put {B : Nat} {T : TypeId} {w : World} {v : Value} {n : Nat} {xs : List Value} (h : w.ownsRow B T 1 v n xs) {g p : Nat} (hg : g < B) (z : Nat → Int) : (put4 g p z w).ownsRow B T 1 v n xs := by
  have step : ∀ (w : World) (a : Addr) (u : Value), a.block < B → w.ownsRow B T 1 v n xs → (w.setCell a u).ownsRow B T 1 v n xs := by
    intro w a u ha h
    refine ⟨h.1, ?_⟩
    rcases h.2 with hn | ⟨b, cap, cur, hv, hB, hb, rest⟩
    · exact .inl hn
    · exact .inr ⟨b, cap, cur, hv, hB, (Below.heap_setCell w _ u b (by omega)).trans hb, rest⟩
  unfold put4
  exact step _ _ _ hg (step _ _ _ hg (step _ _ _ hg (step _ _ _ hg h)))
theorem own_more {B : Nat} {T : TypeId} {w w' : World} {v : Value} {n : Nat} {xs : List Value} (h : w.ownsRow B T 1 v n xs) (hb : Below w.heap.size w w') : w'.ownsRow B T 1 v n xs := by
  refine ⟨h.1, ?_⟩
  rcases h.2 with hn | ⟨b, cap, cur, hv, hB, hg, rest⟩
  · exact .inl hn
  · exact .inr ⟨b, cap, cur, hv, hB, (hb.block b (Array.getElem?_eq_some_iff.1 hg).1).trans hg, rest⟩

set_option maxHeartbeats 4000000 in
set_option maxRecDepth 100000 in
theorem refFit_any (v u : Value) (ls : List Slot) (ts : List Tm) (d : Nat → Int) (n : Int) (w : World) (hv : SlRow w v ls) (hu : TRow w u ts) (hf : Sel.Fair ts) (hd : InRange d) (hz : ls.length * 72 ≤ 140737488355328) (_hn : -9223372036854775808 ≤ n ∧ n ≤ 9223372036854775807) :
    Calls Try.prog 11 #[v, u, vec (d 0) (d 1) (d 2) (d 3), .int .i64 n] w fun e w' => FitTold ls (fitX d n (seenAll ts ls)) e w' ∧ Below w.heap.size w w' := by
  obtain ⟨a, cap, rfl, _, _⟩ := hv.slice
  by_cases h8 : 8 < n
  · have HE : Hid (fitX d n (seenAll ts ls) = none) := Lib.hid (if_pos h8)
    have hb : Below w.heap.size w (w.alloc (boxR d)) := (Below.refl _ _).alloc (Nat.le_refl _) _
    unfold vec
    unfold boxR at hb
    go_enter Try.func11, Try.ntmps11
    go_wp2
    go_ret2
    rw [HE.out]
    exact ⟨rfl, hb⟩
  obtain ⟨N, hN⟩ : ∃ N : Nat, n.toNat = N := ⟨_, rfl⟩
  have hfx : fitX d n (seenAll ts ls) = fitL d N (seenAll ts ls) := by unfold fitX; rw [if_neg h8, hN]
  rw [hfx]
  have hN8 : N ≤ 8 := by omega
  have HNn : ∀ k : Nat, (k : Int) < n ↔ k < N := fun k => by omega
  obtain ⟨W, hW⟩ : ∃ W, W = w.alloc (boxR d) := ⟨_, rfl⟩
  have hwW : Below w.heap.size w W := by rw [hW]; exact (Below.refl _ _).alloc (Nat.le_refl _) _
  have HB := Lib.hid (fun w' (h : Below W.heap.size W w') => one_box w d (w' := w') (by rw [hW] at h; exact h))
  have hWs : w.heap.size < W.heap.size := by rw [hW]; simp
  obtain ⟨lv, w1, hrun, hlr, hb1⟩ := copy_row Try.underlying32 infoRS (hv.below hwW) hz 32
  obtain ⟨i0, hi, hz0, hz1, hz2⟩ := info_parts infoStr
  have HV := Lib.hid (hv.below hwW)
  have HU := Lib.hid (hu.below hwW)
  have HF := Lib.hid hf
  have HD := Lib.hid hd
  have HL := Lib.hid hlr
  have HW := Lib.hid hW
  unfold vec
  unfold boxR at HW
  clear hv hu hf hd hW hlr hfx hN hz
  go_enter Try.func11, Try.ntmps11
  go_upto_region 1 with fail
  rw [← HW.out]
  clear HW
  go_wp2_with (at_builtin; refine Lib.wpList_append_run W rfl _ _ _ _ rfl _ _ rfl rfl _ _ hrun ?_)
  clear hrun
  go_loopw [11, 12] (fun ov t wr => ∃ (k : Nat) (js : List Nat), k ≤ N ∧ t = .int .i64 k ∧ fitL d k (seenAll ts ls) = some (js, seenAll ts (leftS d js ls)) ∧ js.length = k ∧ LRow W wr W.heap.size lv (leftS d js ls) ∧ wr.ownsRow w1.heap.size 9 1 ov js.length (svals (nodesOf ls js)) ∧ Below W.heap.size W wr ∧ w1.heap.size ≤ wr.heap.size) (fun _ t _ => N - (intOf t).toNat)
  case atStart => exact ⟨0, [], Nat.zero_le _, rfl, rfl, rfl, HL.out, World.ownsRow_nil _ _ _ _, hb1, Nat.le_refl _⟩
  case round =>
    obtain ⟨k, js, hk, rfl, hfit, hjl, hlr, hown, hb, hsz⟩ := hrel
    by_cases hlt : k < N
    · have hltz : (k : Int) < n := (HNn k).2 hlt
      have hk0 : (0 : Int) ≤ (k : Int) := by omega
      obtain ⟨X, hX⟩ : ∃ X, X = leftS d js ls := ⟨_, rfl⟩
      rw [← hX] at hfit hlr
      have HX := Lib.hid hX
      have hXl : X.length = ls.length := by rw [hX]; exact leftS_length d js ls
      have hsl := hlr.slrow hb
      have hbx := HB.out wr hb
      obtain ⟨d0, d1, d2, d3, _⟩ := cells4R hbx
      have hbest := refBest_any lv u X ts d wr hsl (HU.out.below hb) HF.out HD.out
      have hplace := placeOf_best d (seenAll ts X)
      have hsX : (seenAll ts X).length = X.length := by unfold seenAll; rw [List.length_map]
      rw [hsX] at hplace
      rw [hplace] at hbest
      have HBest := Lib.hid hbest
      obtain ⟨hr1, hr2⟩ := fit_snoc hfit
      have HR2 := Lib.hid hr2
      have HLr := Lib.hid hlr
      have HOwn := Lib.hid hown
      have HBx := Lib.hid hbx
      have HFit := Lib.hid hfit
      clear hsl hbest hplace hr1 hr2 hlr hown hX hbx hfit hsX
      cases hbl : bestL d (seenAll ts X) with
      | none =>
        rw [hbl] at HBest HR2
        have HE : Hid (fitL d N (seenAll ts ls) = none) := Lib.hid (fit_none HR2.out (by omega))
        have HBF := Lib.hid (hwW.trans (hb.mono (Nat.le_of_lt hWs)))
        clear HR2
        unfold vec at HBest
        go_wp2_with fail
        (with_reducible refine HBest.out.mono ?_)
        rintro _ wq ⟨rfl, hbq⟩
        have hbF := HBF.out.trans (hbq.mono HBF.out.size)
        clear HBest d0 d1 d2 d3
        go_wp2
        go_ret2
        rw [HE.out]
        exact ⟨rfl, hbF⟩
      | some j =>
        rw [hbl] at HBest HR2
        obtain ⟨sl, hsl1, hsl2⟩ := bestL_some hbl
        obtain ⟨s, hs⟩ : ∃ s, X[j]? = some s := by
          cases hc : X[j]? with
          | none => unfold seenAll at hsl1; rw [List.getElem?_map, hc] at hsl1; cases hsl1
          | some s => exact ⟨s, rfl⟩
        have hsee : sl = seen ts s := by rw [seenAll_get hs] at hsl1; exact (Option.some.inj hsl1).symm
        have hjl2 : j < X.length := (List.getElem?_eq_some_iff.1 hs).1
        have hjlz : (j : Int) < (ls.length : Int) := by omega
        have hj0 : (0 : Int) ≤ (j : Int) := by omega
        have hjn : ¬ (j : Int) < 0 := by omega
        have hfits : fits4 d s.free = true := by
          rw [hsee] at hsl2; unfold cand at hsl2; rw [Bool.and_eq_true] at hsl2; exact hsl2.2
        obtain ⟨la, lcap, hlv⟩ : ∃ la lcap, lv = .slice la ls.length lcap := by
          rw [← hXl]
          rcases HLr.out with ⟨h0, a1, c1, h1, _⟩ | ⟨_, g, c1, h1, _⟩
          · exact ⟨a1, c1, by rw [h1, h0]; rfl⟩
          · exact ⟨_, c1, h1⟩
        subst hlv
        have hok : s.ok := by
          obtain ⟨_, _, _, _, _, _, hc⟩ := HLr.out.store hs s.free (by
            rcases HLr.out with ⟨h0, _⟩ | ⟨_, g, c1, _, _, _, _, _, h6⟩
            · rw [h0] at hs; cases hs
            · obtain ⟨_, _, _, _, ok⟩ := h6 j s hs; exact ok.free)
          obtain ⟨_, _, _, _, ok⟩ := hc j s hs
          exact ok
        have hzr := sub_range hok.free HD.out hfits
        obtain ⟨g, rfl, hgB, hgs, hnl, hst0, hcl⟩ := HLr.out.store hs (sub4 s.free d) hzr
        clear hnl hst0
        have hgw1 : g < w1.heap.size := by
          rcases HL.out with ⟨h0, _⟩ | ⟨_, g2, c2, h1, h2, h3, _⟩
          · rw [h0] at hXl; simp at hXl; rw [hXl] at hs; cases hs
          · injection h1 with e1 _ _
            injection e1 with e1
            injection e1 with e1 _ _
            omega
        have HStore := Lib.hid (fun w' (h : Below wr.heap.size wr w') => (HLr.out.below h).store hs (sub4 s.free d) hzr)
        have HCl := Lib.hid hcl
        have HS := Lib.hid hs
        have hleft : leftOf s.free d = sub4 s.free d := by unfold leftOf; rw [if_pos hfits]
        have HSub := Lib.hid (fun w => (by have := refSub_left s.free d hok.free HD.out w; rw [hleft, hfits] at this; exact this : Calls Try.prog 28 #[.agg #[.int .u64 (s.free 0), .int .u64 (s.free 1), .int .u64 (s.free 2), .int .u64 (s.free 3)], .agg #[.int .u64 (d 0), .int .u64 (d 1), .int .u64 (d 2), .int .u64 (d 3)]] w fun e w' =>
          e = .returned (.tuple #[.agg #[.int .u64 (sub4 s.free d 0), .int .u64 (sub4 s.free d 1), .int .u64 (sub4 s.free d 2), .int .u64 (sub4 s.free d 3)], .bool true]) ∧ Below w.heap.size w w'))
        have HXl := Lib.hid hXl
        clear hsl1 hsl2 hsee hs hcl hleft hok hfits hbl hXl
        unfold vec at HBest
        go_wp2_with fail
        (with_reducible refine HBest.out.mono ?_)
        rintro _ wq ⟨rfl, hbq⟩
        have hqs := hbq.size
        have hclq := HCl.out.below hgs hbq
        obtain ⟨lw, c0, f0, _, _⟩ := hclq j s HS.out
        have n0 := c0 0 _ rfl
        simp only [Nat.zero_add, Nat.add_zero] at n0
        have hown1 := own_more (own_more HOwn.out hbq) ((Below.refl wq.heap.size wq).alloc (Nat.le_refl _) (.cells #[.string s.node] 9))
        have hbase : w1.heap.size ≤ (wq.alloc (.cells #[.string s.node] 9)).heap.size := by rw [World.size_alloc]; omega
        have HNl : Hid ((nodesOf ls js).length = js.length) := Lib.hid (by unfold nodesOf; simp)
        have hlen8 : js.length + 1 ≤ maxLen ∧ (js.length + 1) * 16 ≤ 140737488355328 := by unfold maxLen; omega
        have HLen := Lib.hid hlen8
        have HOw := Lib.hid hown1
        have HBq := Lib.hid (hb.trans ((hbq.alloc hbq.size (.cells #[.string s.node] 9)).mono (Nat.le_trans hb.size (Nat.le_refl _))))
        clear HBest d0 d1 d2 d3 c0 f0 hlen8 hown1
        go_wp2_with (at_builtin; refine wpList_append_own _ rfl _ _ 28 rfl w1.heap.size 9 i0 (.string ByteArray.empty) 1 16 Try.underlying28 hi hz0 hz1 hz2 rfl (by decide) u11 js.length (svals (nodesOf ls js)) rfl HOw.out ⟨wq.heap.size, 0, none⟩ 1 1 [.string s.node] rfl rfl (new_one _ wq _) (fun u hu => by simp at hu; rw [hu]; rfl) HLen.out.1 HLen.out.2 hbase ?_; intro v5 w5 hown5 hgr5 _)
        have hb5 : Below w1.heap.size (wq.alloc (.cells #[.string s.node] 9)) w5 := (Below.refl _ _).grown hgr5 hbase (fun k hk => (HOw.out.lt k hk).1)
        have hbq1 : Below wr.heap.size wr (wq.alloc (.cells #[.string s.node] 9)) := hbq.alloc hbq.size _
        have hb15 : Below w1.heap.size wr w5 := (hbq1.mono hsz).trans hb5
        have hW1 : W.heap.size ≤ w1.heap.size := hb1.size
        have hW5 : Below W.heap.size W w5 := hb.trans (hb15.mono hW1)
        have hs5 := hb15.size
        have HC5 := Lib.hid (HCl.out.keep hgw1 hb15)
        have HOwn5 : Hid (w5.ownsRow w1.heap.size 9 1 v5 (js ++ [j]).length (svals (nodesOf ls (js ++ [j])))) := Lib.hid (by
          have hnode : ((ls[j]?).map Slot.node).getD ⟨#[]⟩ = s.node := by
            have := leftS_node d j js ls
            rw [← HX.out, HS.out] at this
            rw [← this]; rfl
          rw [nodesOf_snoc, hnode, svals_snoc, List.length_append]
          exact hown5)
        have hg5 : g < w5.heap.size := by omega
        have four := fun w' (h : Below w5.heap.size w5 w') => (by
          obtain ⟨lw, c0, f0, _, _⟩ := (HC5.out.below hg5 h) j s HS.out
          have k1 := c0 1 _ rfl
          have k2 := c0 2 _ rfl
          have k3 := c0 3 _ rfl
          have k4 := c0 4 _ rfl
          have z1 := f0 1 (by decide)
          have z2 := f0 2 (by decide)
          have z3 := f0 3 (by decide)
          have z4 := f0 4 (by decide)
          simp only [Nat.zero_add] at k1 k2 k3 k4 z1 z2 z3 z4
          exact ⟨k1, k2, k3, k4, z1, z2, z3, z4⟩ : w'.cell? ⟨g, j * 6 + 1, none⟩ = some (.int .u64 (s.free 0)) ∧ w'.cell? ⟨g, j * 6 + 1 + 1, none⟩ = some (.int .u64 (s.free 1)) ∧ w'.cell? ⟨g, j * 6 + 1 + 2, none⟩ = some (.int .u64 (s.free 2)) ∧ w'.cell? ⟨g, j * 6 + 1 + 3, none⟩ = some (.int .u64 (s.free 3)) ∧
            w'.frozen? ⟨g, j * 6 + 1, none⟩ = false ∧ w'.frozen? ⟨g, j * 6 + 1 + 1, none⟩ = false ∧ w'.frozen? ⟨g, j * 6 + 1 + 2, none⟩ = false ∧ w'.frozen? ⟨g, j * 6 + 1 + 3, none⟩ = false)
        obtain ⟨k1, k2, k3, k4, _⟩ := four w5 (Below.refl _ _)
        have H4 := Lib.hid four
        obtain ⟨d0, d1, d2, d3, _⟩ := cells4R (HB.out w5 hW5)
        have HSb := Lib.hid (HSub.out w5.drew)
        have HW5 := Lib.hid hW5
        have HKeep : Hid (∀ w7, Below w5.heap.size w5 w7 → LRow W (put4 g (j * 6 + 1) (sub4 s.free d) w7) W.heap.size (.slice (some ⟨g, 0, none⟩) ls.length lcap) (leftS d (js ++ [j]) ls) ∧ (put4 g (j * 6 + 1) (sub4 s.free d) w7).ownsRow w1.heap.size 9 1 v5 (js ++ [j]).length (svals (nodesOf ls (js ++ [j]))) ∧ Below W.heap.size W (put4 g (j * 6 + 1) (sub4 s.free d) w7) ∧ w1.heap.size ≤ (put4 g (j * 6 + 1) (sub4 s.free d) w7).heap.size) := Lib.hid (fun w7 h7 => by
          refine ⟨?_, own_put (own_more HOwn5.out h7) hgw1 _, put4_below (HW5.out.trans (h7.mono HW5.out.size)) hgB, by rw [put4_size]; have := h7.size; omega⟩
          have hc := (HC5.out.below hg5 h7).store HS.out (sub4 s.free d) hzr
          rw [leftS_snoc, ← HX.out, takeS_some HS.out]
          have hll : (X.set j { s with free := sub4 s.free d }).length = ls.length := by rw [List.length_set]; exact HXl.out
          rcases HLr.out with ⟨h0, _⟩ | ⟨h0, g2, c2, e1, e2, e3, e4, e5, _⟩
          · have := HS.out; rw [h0] at this; cases this
          · injection e1 with _ _ e1
            subst e1
            refine .inr ⟨fun hn => ?_, g, lcap, by rw [hll], hgB, by rw [put4_size]; have := h7.size; omega, by rw [hll]; have := HXl.out; omega, e5, hc⟩
            rw [hn] at hll
            have := HXl.out
            have h9 := (List.getElem?_eq_some_iff.1 HS.out).1
            simp at hll
            omega)
        have HFit2 : Hid (fitL d (k + 1) (seenAll ts ls) = some (js ++ [j], seenAll ts (leftS d (js ++ [j]) ls))) := Lib.hid (by
          rw [HR2.out, leftS_snoc, ← HX.out, takeS_seen]; rfl)
        clear four hown5 hgr5 hb5 hbq1 hb15 hs5 hW5 hbase n0 hclq HR2 HOw HNl
        go_upto_region 12 with fail
        go_region_law (go_simp; go_at_call 28; (with_reducible refine HSb.out.mono ?_); rintro e w7 ⟨rfl, hb7⟩; have hd7 : Below w5.heap.size w5 w7 := (Below.refl _ w5).drew.trans hb7; obtain ⟨m1, m2, m3, m4, z1, z2, z3, z4⟩ := H4.out w7 hd7; have HK7 := Lib.hid (HKeep.out w7 hd7))
        all_goals
          unfold put4 at HK7
          go_wp2
          go_roundw
          case rel => exact ⟨k + 1, js ++ [j], by omega, by go_num, HFit2.out, by rw [List.length_append, hjl]; rfl, HK7.out.1, HK7.out.2.1, HK7.out.2.2.1, HK7.out.2.2.2⟩
          case measure => simp [intOf]; omega
    · have hltz : ¬ (k : Int) < n := fun h => hlt ((HNn k).1 h)
      obtain rfl : k = N := by omega
      have HE := Lib.hid hfit
      have HS := Lib.hid (show SRow wr u11 (nodesOf ls js) from own_srow (by have : (nodesOf ls js).length = js.length := by unfold nodesOf; simp
                                                                             rw [this]; exact hown))
      have hbF := hwW.trans (hb.mono (Nat.le_of_lt hWs))
      clear hfit hown hlr
      go_wp2
      go_ret2
      rw [HE.out]
      exact ⟨⟨_, rfl, HS.out⟩, hbF⟩
end Go.Proofs.Ytbefnophkaepmaa.Pack

/- Slots as the document's: what the statements' own refSlots and texts answer; of memory that was there nothing turns. -/
namespace Go.Proofs.Ytbefnophkaepmaa.Label
open Go.RowKit Go.Proofs.Ytbefnophkaepmaa.Texts Go.Proofs.Ytbefnophkaepmaa.Word

set_option maxHeartbeats 4000000 in
set_option maxRecDepth 100000 in
theorem refL_own (v : Value) (ls : List Pr) (w : World) (hv : Row w v ls) (hl : ls.length ≤ 4398046511104) :
    Calls Try.prog 29 #[v] w fun e w' => (∃ u, e = .returned u ∧ w'.ownsRow w.heap.size 85 2 u ls.length (ls.flatMap enc)) ∧ Below w.heap.size w w' := by
  obtain ⟨i0, hi, hz0, hz1, hz2⟩ := info_parts infoR
  obtain ⟨ad, cap, rfl⟩ := hv.slice
  have HV := Lib.hid hv
  clear hv
  go_enter Try.func29, Try.ntmps29
  go_wp2
  go_loopw [3, 4] (fun t i wr => ∃ k : Nat, k ≤ ls.length ∧ i = .int .i64 k ∧ wr.ownsRow w.heap.size 85 2 t (ls.take k).length ((ls.take k).flatMap enc) ∧ Below w.heap.size w wr) (fun _ i _ => ls.length - (intOf i).toNat)
  case atStart => exact ⟨0, Nat.zero_le _, rfl, World.ownsRow_nil _ _ _ _, Below.refl _ _⟩
  case round =>
    obtain ⟨k, hk, rfl, hown, hb⟩ := hrel
    have HO := Lib.hid hown
    clear hown
    by_cases hlt : k < ls.length
    · have hltz : (k : Int) < (ls.length : Int) := by omega
      have hk0 : (0 : Int) ≤ (k : Int) := by omega
      obtain ⟨g, o, rfl, hg, hc⟩ := HV.out.cells hlt
      obtain ⟨x, hx⟩ : ∃ x, ls[k]? = some x := ⟨_, List.getElem?_eq_getElem hlt⟩
      have HN1 : Hid (ls.take (k + 1) = ls.take k ++ [x]) := Lib.hid (by rw [List.take_add_one, hx]; rfl)
      have HK : Hid (∀ x', Below w.heap.size w x' → x'.cell? ⟨g, o + k * 2, none⟩ = some (.string x.1) ∧ x'.cell? ⟨g, o + k * 2 + 1, none⟩ = some (.string x.2)) := Lib.hid fun x' h => hc.below hg h k x hx
      have hlk : (ls.take k).length = k := by rw [List.length_take]; omega
      have HLz : Hid ((ls.take k).length + 1 ≤ maxLen ∧ ((ls.take k).length + 1) * 32 ≤ 140737488355328 ∧ w.heap.size ≤ wr.heap.size + 1) := Lib.hid (by have := hb.size; unfold maxLen; omega)
      have HO2 : Hid (∀ x, (wr.drew.alloc x).ownsRow w.heap.size 85 2 u3 (ls.take k).length ((ls.take k).flatMap enc)) := Lib.hid fun x => World.ownsRow.alloc (w := wr.drew) HO.out x
      have hs0 : Below wr.heap.size wr wr.drew := (Below.refl _ _).drew
      have hb2 : Below w.heap.size w wr.drew := hb.drew
      clear hx hc hlk
      obtain ⟨x1, x2⟩ := x
      simp only at HK
      have hb3 : Below w.heap.size w (World.alloc wr.drew (.cells #[.string x1, .string x2] 85)) := hb2.alloc hb2.size _
      go_wp2_with fail
      go_region_held3 (fun x => x.cell? ⟨g, o + k * 2, none⟩ = some (.string x1) ∧ x.cell? ⟨g, o + k * 2 + 1, none⟩ = some (.string x2))
        (first | exact HK.out _ hb2 | exact HK.out _ hb3 | exact HK.out _ b5)
        (first | (refine step_own _ rfl _ _ 67 rfl w.heap.size 85 i0 (.agg #[.string ByteArray.empty, .string ByteArray.empty]) 2 32 Try.underlying67 hi hz0 hz1 hz2 rfl (by decide) u3 _ _ rfl (HO2.out _) ⟨wr.heap.size, 0, none⟩ 1 1 [.string x1, .string x2] rfl rfl (new_twoT _ wr.drew _ _) (fun u hu => by simp at hu; rcases hu with rfl | rfl <;> rfl) HLz.out.1 HLz.out.2.1 (by show _ ≤ (World.alloc wr _).heap.size; rw [World.size_alloc]; exact HLz.out.2.2) ?_; intro v5 w5 hown5 hgr5; have b5 : Below w.heap.size w w5 := hb3.grown hgr5 hb3.size (fun k hk => (HO.out.lt k hk).1)))
      have hown4 : w5.ownsRow w.heap.size 85 2 v5 (ls.take (k + 1)).length ((ls.take (k + 1)).flatMap enc) := by rw [HN1.out, fm_snoc]; simpa using hown5
      clear hown5 hgr5
      go_wp2
      go_roundw
      case rel => exact ⟨k + 1, by omega, by go_num, hown4, b5⟩
      case measure => simp [intOf]; omega
    · obtain rfl : k = ls.length := by omega
      have HO' := HO.out
      rw [List.take_length] at HO'
      clear HO
      have HO := Lib.hid HO'
      clear HO'
      go_wp2
      go_ret
      exact ⟨⟨_, rfl, HO.out⟩, hb⟩

end Go.Proofs.Ytbefnophkaepmaa.Label
namespace Go.Proofs.Ytbefnophkaepmaa.Pack
open Go.RowKit Go.Proofs.Ytbefnophkaepmaa.Label Go.Proofs.Ytbefnophkaepmaa.Sel Go.Proofs.Ytbefnophkaepmaa.Vec Go.Proofs.Ytbefnophkaepmaa.Texts

/-- An append whose run is known, in a region that draws. -/
theorem step_append {P : Program} (w : World) {ops : Array Oper} {o : Oper} {a : Act} {K : Act → World → Prop} {Q : Exit → Act → World → Prop} {E : Prop} (hgd : o.guard = none) (s x : Operand) (t tn : TypeId)
    (ho : o.op = .call { callee := .builtin .append, args := #[s, x], argTypes := #[t, tn] }) (vs vx : Value) (hs : a.eval s = vs) (hx : a.eval x = vx)
    (v' : Value) (w' : World) (hr : (Builtin.append_ #[t, tn] o.type #[vs, vx]).run P w = .ok v' w') (h : K (a.put o.dst v') w') : if Region.wanted o (yielded ops a.tmps) = true then Oper.wp P o a w K Q else E := by
  have hw : Region.wanted o (yielded ops a.tmps) = true := by simp [Region.wanted, hgd]
  rw [if_pos hw]
  exact Lib.wp_append_run w s x t tn ho vs vx hs hx v' w' hr h
/-- Labels whose row stands in a block of that kind. -/
def LIn (p : Nat → Prop) (w : World) (v : Value) (ls : List Pr) : Prop := Row w v ls ∧ ∀ g o n c, v = .slice (some ⟨g, o, none⟩) n c → ls ≠ [] → p g
theorem LIn.kept {p q : Nat → Prop} {w w' : World} {v : Value} {ls : List Pr} (h : LIn p w v ls) (hs : w.heap.size ≤ w'.heap.size) (hk : ∀ g, p g → g < w.heap.size → w'.heap[g]? = w.heap[g]? ∧ q g) : LIn q w' v ls := by
  have hlt : ∀ g o n c, v = .slice (some ⟨g, o, none⟩) n c → ls ≠ [] → g < w.heap.size := fun g o n c e hn => by
    rcases h.1 with ⟨h1, _⟩ | ⟨_, g', o', c', h1, h2, _⟩
    · exact absurd h1 hn
    · rw [e] at h1
      injection h1 with h1 _ _
      injection h1 with h1
      injection h1 with h1 _ _
      omega
  refine ⟨?_, fun g o n c e hn => (hk g (h.2 g o n c e hn) (hlt g o n c e hn)).2⟩
  rcases h.1 with h1 | ⟨h0, g, o, cap, h1, h2, h3, h4, h5⟩
  · exact .inl h1
  · refine .inr ⟨h0, g, o, cap, h1, by omega, h3, h4, fun j t hj => ?_⟩
    have he := (hk g (h.2 g o _ _ h1 h0) h2).1
    rw [World.cell?_of_block (w := w) (w' := w') (a := ⟨g, o + j * 2, none⟩) he, World.cell?_of_block (w := w) (w' := w') (a := ⟨g, o + j * 2 + 1, none⟩) he]
    exact h5 j t hj
/-- Of one's own labels: their block is new. -/
theorem own_lin {B : Nat} {T : TypeId} {w : World} {v : Value} {ls : List Pr} (h : w.ownsRow B T 2 v ls.length (ls.flatMap enc)) : LIn (fun g => B ≤ g) w v ls := by
  refine ⟨own_rowT h, fun g o n c e hn => ?_⟩
  rcases h.2 with ⟨rfl, h0⟩ | ⟨g', cap, cur, hv, hB, _⟩
  · cases e
  · rw [hv] at e
    injection e with e _ _
    injection e with e
    injection e with e _ _
    omega
def Beside6 (B : Nat) (v : Value) (g : Nat) : Prop := B ≤ g ∧ v.ownBlock ≠ some g

theorem own_keep {B size : Nat} {T : TypeId} {w w' : World} {v : Value} {n : Nat} {xs : List Value} (h : w.ownsRow B T size v n xs) (hb : Below w.heap.size w w') : w'.ownsRow B T size v n xs := by
  refine ⟨h.1, ?_⟩
  rcases h.2 with hn | ⟨b, cap, cur, hv, hB, hg, rest⟩
  · exact .inl hn
  · exact .inr ⟨b, cap, cur, hv, hB, (hb.block b (Array.getElem?_eq_some_iff.1 hg).1).trans hg, rest⟩
theorem new_six (T : TypeId) (w : World) (a b c d e f : Value) : ∀ j u, [a, b, c, d, e, f][j]? = some u → (w.alloc (.cells #[a, b, c, d, e, f] T)).cell? ((⟨w.heap.size, 0, none⟩ : Addr).add j) = some u := by
  intro j u hj
  have h : (w.alloc (.cells #[a, b, c, d, e, f] T)).heap[w.heap.size]? = some (.cells #[a, b, c, d, e, f] T) := heap_alloc_new _ _
  rw [Addr.add_lit]
  match j with
  | 0 => simp at hj; subst hj; simp only [World.cell?, h]; rfl
  | 1 => simp at hj; subst hj; simp only [World.cell?, h]; rfl
  | 2 => simp at hj; subst hj; simp only [World.cell?, h]; rfl
  | 3 => simp at hj; subst hj; simp only [World.cell?, h]; rfl
  | 4 => simp at hj; subst hj; simp only [World.cell?, h]; rfl
  | 5 => simp at hj; subst hj; simp only [World.cell?, h]; rfl
  | (n + 6) => simp at hj
theorem own_block_le {B size : Nat} {T : TypeId} {w : World} {v : Value} {n : Nat} {xs : List Value} (h : w.ownsRow B T size v n xs) {g : Nat} (hg : v.ownBlock = some g) : g < w.heap.size := (h.lt g hg).2

set_option maxHeartbeats 1000000 in
set_option maxRecDepth 100000 in
theorem refV_any (x : Nat → Int) (w : World) : Calls Try.prog 14 #[.agg #[.int .u64 (x 0), .int .u64 (x 1), .int .u64 (x 2), .int .u64 (x 3)]] w fun e w' => e = .returned (.agg #[.int .u64 (x 0), .int .u64 (x 1), .int .u64 (x 2), .int .u64 (x 3)]) ∧ Below w.heap.size w w' := by
  go_enter Try.func14, Try.ntmps14
  go_wp2
  have h2 := heap_alloc2_new w (.cells #[.int .u64 (x 0), .int .u64 (x 1), .int .u64 (x 2), .int .u64 (x 3)] 26) (boxR x)
  unfold boxR at h2
  have d0 := cell_at (i := 0) h2 rfl
  have d1 := cell_at (i := 1) h2 rfl
  have d2 := cell_at (i := 2) h2 rfl
  have d3 := cell_at (i := 3) h2 rfl
  refine bodyPost_ret (v := .agg #[.int .u64 (x 0), .int .u64 (x 1), .int .u64 (x 2), .int .u64 (x 3)]) (by simp [results, Try.results14, go_sem, d0, d1, d2, d3]) rfl ?_
  exact ⟨rfl, ((Below.refl _ _).alloc (Nat.le_refl _) _).alloc (by simp) _⟩

set_option maxHeartbeats 4000000 in
set_option maxRecDepth 100000 in
theorem refSlots_any (v : Value) (ls : List Slot) (w : World) (hv : SlRow w v ls) (hz : ls.length * 72 ≤ 140737488355328) :
    Calls Try.prog 12 #[v] w fun e w' => (∃ u, e = .returned u ∧ SlRow w' u ls) ∧ Below w.heap.size w w' := by
  obtain ⟨i0, hi, hz0, hz1, hz2⟩ := info_parts infoRS
  obtain ⟨a, cap, rfl, _, _⟩ := hv.slice
  have HV := Lib.hid hv
  clear hv
  go_enter Try.func12, Try.ntmps12
  go_wp2
  go_loopw [3, 4] (fun t i wr => ∃ (k : Nat) (xs : List SV), k ≤ ls.length ∧ i = .int .i64 k ∧ xs.length = k ∧ xs.map (·.1) = ls.take k ∧ wr.ownsRow w.heap.size 69 6 t xs.length (xs.flatMap cellsP) ∧ (∀ p ∈ xs, LIn (Beside6 w.heap.size t) wr p.2 p.1.labs ∧ p.1.ok) ∧ Below w.heap.size w wr) (fun _ i _ => ls.length - (intOf i).toNat)
  case atStart => exact ⟨0, [], Nat.zero_le _, rfl, rfl, rfl, World.ownsRow_nil _ _ _ _, fun x hx => by simp at hx, Below.refl _ _⟩
  case round =>
    obtain ⟨k, xs, hk, rfl, hxl, hxm, hown, hin, hb⟩ := hrel
    by_cases hlt : k < ls.length
    · have hltz : (k : Int) < (ls.length : Int) := by omega
      have hk0 : (0 : Int) ≤ (k : Int) := by omega
      obtain ⟨g, o, rfl, hg, hcell⟩ := HV.out.cells hlt
      obtain ⟨s, hs⟩ : ∃ s, ls[k]? = some s := ⟨_, List.getElem?_eq_getElem hlt⟩
      have six := fun w' (h : Below w.heap.size w w') => (hcell.below hg h).six hs
      have HSix := Lib.hid six
      obtain ⟨la, lc, p0, p1, p2, p3, p4, p5, hlr, hok⟩ := six wr hb
      have cells := fun w' (h : Below wr.heap.size wr w') => (by
        have hgr : g < wr.heap.size := by have := hb.size; omega
        exact ⟨(h.cell (p := ⟨g, o + k * 6, none⟩) hgr).trans p0, (h.cell (p := ⟨g, o + k * 6 + 1, none⟩) hgr).trans p1, (h.cell (p := ⟨g, o + k * 6 + 1 + 1, none⟩) hgr).trans p2, (h.cell (p := ⟨g, o + k * 6 + 1 + 2, none⟩) hgr).trans p3, (h.cell (p := ⟨g, o + k * 6 + 1 + 3, none⟩) hgr).trans p4, (h.cell (p := ⟨g, o + k * 6 + 5, none⟩) hgr).trans p5⟩ :
          w'.cell? ⟨g, o + k * 6, none⟩ = some (.string s.node) ∧ w'.cell? ⟨g, o + k * 6 + 1, none⟩ = some (.int .u64 (s.free 0)) ∧ w'.cell? ⟨g, o + k * 6 + 1 + 1, none⟩ = some (.int .u64 (s.free 1)) ∧ w'.cell? ⟨g, o + k * 6 + 1 + 2, none⟩ = some (.int .u64 (s.free 2)) ∧ w'.cell? ⟨g, o + k * 6 + 1 + 3, none⟩ = some (.int .u64 (s.free 3)) ∧ w'.cell? ⟨g, o + k * 6 + 5, none⟩ = some (.slice la s.labs.length lc))
      have HCs := Lib.hid cells
      have hd0 : Below wr.heap.size wr wr.drew := (Below.refl _ _).drew
      have HRV := Lib.hid (refV_any s.free wr.drew)
      have HRL := Lib.hid (fun w' (h : Below wr.heap.size wr w') => refL_own (.slice la s.labs.length lc) s.labs w' (hlr.below h) hok.labs)
      have HOw := Lib.hid hown
      have HIn := Lib.hid hin
      have HXM := Lib.hid hxm
      have HOk := Lib.hid hok
      have HS := Lib.hid hs
      have HLz : Hid (xs.length + 1 ≤ maxLen ∧ (xs.length + 1) * 72 ≤ 140737488355328) := Lib.hid (by unfold maxLen; omega)
      have c00 := cells wr.drew hd0
      clear six p0 p1 p2 p3 p4 p5 hlr hok hown hin hxm hcell hs cells
      go_wp2_with fail
      refine wp_region_held_drew (S := fun z => z.cell? ⟨g, o + k * 6, none⟩ = some (.string s.node) ∧ z.cell? ⟨g, o + k * 6 + 1, none⟩ = some (.int .u64 (s.free 0)) ∧ z.cell? ⟨g, o + k * 6 + 1 + 1, none⟩ = some (.int .u64 (s.free 1)) ∧ z.cell? ⟨g, o + k * 6 + 1 + 2, none⟩ = some (.int .u64 (s.free 2)) ∧ z.cell? ⟨g, o + k * 6 + 1 + 3, none⟩ = some (.int .u64 (s.free 3)) ∧ z.cell? ⟨g, o + k * 6 + 5, none⟩ = some (.slice la s.labs.length lc)) (by kernel_rfl) c00 (fun hHeld => ?_)
      clear c00
      (refine wpAnyH_take (i := 0) (v := ?_) rfl (by kernel_rfl) (by kernel_rfl) (by kernel_rfl) (fun _ _ _ h => h) (Or.inl ⟨by rfl, ?_⟩) hHeld ?_; rotate_left; focus (intro w hSw; (try dsimp only at hSw); go_simp; try with_reducible rfl))
      (refine wpAnyH_take (i := 1) (v := ?_) rfl (by kernel_rfl) (by kernel_rfl) (by kernel_rfl) (fun _ _ _ h => h) (Or.inl ⟨by rfl, ?_⟩) hHeld ?_; rotate_left; focus (intro w hSw; (try dsimp only at hSw); go_simp; try with_reducible rfl))
      (refine wpAnyH_take (i := 2) (v := ?_) rfl (by kernel_rfl) (by kernel_rfl) (by kernel_rfl) (fun _ _ _ h => h) (Or.inl ⟨by rfl, ?_⟩) hHeld ?_; rotate_left; focus (intro w hSw; (try dsimp only at hSw); go_simp; try with_reducible rfl))
      (refine wpAnyH_take (i := 3) (v := ?_) rfl (by kernel_rfl) (by kernel_rfl) (by kernel_rfl) (fun _ _ _ h => h) (Or.inl ⟨by rfl, ?_⟩) hHeld ?_; rotate_left; focus (intro w hSw; (try dsimp only at hSw); go_simp; try with_reducible rfl))
      (refine wpAnyH_take (i := 4) (v := ?_) rfl (by kernel_rfl) (by kernel_rfl) (by kernel_rfl) (fun _ _ _ h => h) (Or.inl ⟨by rfl, ?_⟩) hHeld ?_; rotate_left; focus (intro w hSw; (try dsimp only at hSw); go_simp; try with_reducible rfl))
      (refine wpAnyH_take (i := 5) (v := ?_) rfl (by kernel_rfl) (by kernel_rfl) (by kernel_rfl) (fun _ _ _ h => h) (Or.inl ⟨by rfl, ?_⟩) hHeld ?_; rotate_left; focus (intro w hSw; (try dsimp only at hSw); go_simp; try with_reducible rfl))
      (refine wpAnyH_take (i := 6) (v := ?_) rfl (by kernel_rfl) (by kernel_rfl) (by kernel_rfl) (fun _ _ _ h => h) (Or.inl ⟨by rfl, ?_⟩) hHeld ?_; rotate_left; focus (intro w hSw; (try dsimp only at hSw); go_simp; try with_reducible rfl))
      (refine wpAnyH_take (i := 7) (v := ?_) rfl (by kernel_rfl) (by kernel_rfl) (by kernel_rfl) (fun _ _ _ h => h) (Or.inl ⟨by rfl, ?_⟩) hHeld ?_; rotate_left; focus (intro w hSw; (try dsimp only at hSw); go_simp; try with_reducible rfl))
      (refine wpAnyH_take (i := 8) (v := ?_) rfl (by kernel_rfl) (by kernel_rfl) (by kernel_rfl) (fun _ _ _ h => h) (Or.inl ⟨by rfl, ?_⟩) hHeld ?_; rotate_left; focus (intro w hSw; (try dsimp only at hSw); go_simp; try with_reducible rfl))
      (refine wpAnyH_take (i := 9) (v := ?_) rfl (by kernel_rfl) (by kernel_rfl) (by kernel_rfl) (fun _ _ _ h => h) (Or.inl ⟨by rfl, ?_⟩) hHeld ?_; rotate_left; focus (intro w hSw; (try dsimp only at hSw); go_simp; try with_reducible rfl))
      (refine wpAnyH_take (i := 10) (v := ?_) rfl (by kernel_rfl) (by kernel_rfl) (by kernel_rfl) (fun _ _ _ h => h) (Or.inl ⟨by rfl, ?_⟩) hHeld ?_; rotate_left; focus (intro w hSw; (try dsimp only at hSw); go_simp; try with_reducible rfl))
      (refine wpAnyH_take (i := 12) (v := ?_) rfl (by kernel_rfl) (by kernel_rfl) (by kernel_rfl) (fun _ _ _ h => h) (Or.inl ⟨by rfl, ?_⟩) hHeld ?_; rotate_left; focus (intro w hSw; (try dsimp only at hSw); go_simp; try with_reducible rfl))
      (refine wpAnyH_take (i := 13) (v := ?_) rfl (by kernel_rfl) (by kernel_rfl) (by kernel_rfl) (fun _ _ _ h => h) (Or.inl ⟨by rfl, ?_⟩) hHeld ?_; rotate_left; focus (intro w hSw; (try dsimp only at hSw); go_simp; try with_reducible rfl))
      (refine wpAnyH_take (i := 14) (v := ?_) rfl (by kernel_rfl) (by kernel_rfl) (by kernel_rfl) (fun _ _ _ h => h) (Or.inl ⟨by rfl, ?_⟩) hHeld ?_; rotate_left; focus (intro w hSw; (try dsimp only at hSw); go_simp; try with_reducible rfl))
      (refine wpAnyH_take (i := 15) (v := ?_) rfl (by kernel_rfl) (by kernel_rfl) (by kernel_rfl) (fun _ _ _ h => h) (Or.inl ⟨by rfl, ?_⟩) hHeld ?_; rotate_left; focus (intro w hSw; (try dsimp only at hSw); go_simp; try with_reducible rfl))
      (refine wpAnyH_take (i := 16) (v := ?_) rfl (by kernel_rfl) (by kernel_rfl) (by kernel_rfl) (fun _ _ _ h => h) (Or.inl ⟨by rfl, ?_⟩) hHeld ?_; rotate_left; focus (intro w hSw; (try dsimp only at hSw); go_simp; try with_reducible rfl))
      (refine wpAnyH_ready (rs := [11]) (by kernel_rfl) (by simp) ?_; refine AllReadyH.cons rfl (fun K hK => ?_) AllReadyH.nil; go_simp; go_at_call 14; (with_reducible refine HRV.out.mono ?_); rintro e z1 ⟨rfl, hb1⟩; have hd1 : Below wr.heap.size wr z1 := hd0.trans hb1; refine hK.out _ _ (HCs.out _ hd1) (fun hHeld => ?_); clear hK K)
      (refine wpAnyH_ready (rs := [17]) (by kernel_rfl) (by simp) ?_; refine AllReadyH.cons rfl (fun K hK => ?_) AllReadyH.nil; go_simp; go_at_call 29; (with_reducible refine (HRL.out _ hd1).mono ?_); rintro e z2 ⟨⟨lu, rfl, hlo⟩, hb2⟩; have hd2 : Below wr.heap.size wr z2 := hd1.trans (hb2.mono hd1.size); refine hK.out _ _ (HCs.out _ hd2) (fun hHeld => ?_); clear hK K)
      have hli := own_lin hlo
      obtain ⟨ua, uc, rfl⟩ := Label.Row.slice hli.1
      obtain ⟨C, hC⟩ : ∃ C, C = z2.alloc (.cells #[.string s.node, .int .u64 (s.free 0), .int .u64 (s.free 1), .int .u64 (s.free 2), .int .u64 (s.free 3), .slice ua s.labs.length uc] 69) := ⟨_, rfl⟩
      have hzC : Below z2.heap.size z2 C := by rw [hC]; exact (Below.refl _ _).alloc (Nat.le_refl _) _
      have hCs : C.heap.size = z2.heap.size + 1 := by rw [hC]; simp
      have hd3 : Below wr.heap.size wr C := hd2.trans (hzC.mono hd2.size)
      obtain ⟨v5, w5, hrun5, hown5, hgr5, _, hob5⟩ := run_append_own_at (P := Try.prog) C w.heap.size 32 32 69 i0 zeroSl 6 72 Try.underlying32 hi hz0 hz1 hz2 rfl (by decide) u3 xs.length (xs.flatMap cellsP) (own_keep HOw.out hd3) ⟨z2.heap.size, 0, none⟩ 1 1 (cellsS s (.slice ua s.labs.length uc)) rfl
        (fun j u hu => by rw [hC]; exact new_six _ z2 _ _ _ _ _ _ j u hu) (cells_one (s, .slice ua s.labs.length uc) rfl) HLz.out.1 HLz.out.2 (by have := hb.size; have := hd3.size; omega)
      have hd4 : Below w.heap.size w w5 := (hb.trans (hd3.mono hb.size)).grown hgr5 (by have := hb.size; have := hd3.size; omega) (fun x hx => (HOw.out.lt x hx).1)
      have hsz2 := hd2.size
      have hsz5 := hgr5.size
      have hb2s := hb2.size
      have hd1s := hd1.size
      have hC5 : ∀ x, x < C.heap.size → u3.ownBlock ≠ some x → w5.heap[x]? = C.heap[x]? := fun x hx hn => hgr5.block x hx (fun e => hn e.symm)
      have HNew : Hid (∀ p ∈ xs ++ [(s, Value.slice ua s.labs.length uc)], LIn (Beside6 w.heap.size v5) w5 p.2 p.1.labs ∧ p.1.ok) := Lib.hid (fun p hp => by
        rcases List.mem_append.1 hp with hp | hp
        · obtain ⟨h1, h2⟩ := HIn.out p hp
          refine ⟨h1.kept (by omega) (fun x ⟨hx1, hx2⟩ hx3 => ⟨(hC5 x (by omega) hx2).trans (hd3.block x hx3), hx1, ?_⟩), h2⟩
          rcases hob5 with e | e
          · rw [e]; exact hx2
          · rw [e]; intro h; injection h with h; omega
        · rw [List.mem_singleton.1 hp]
          refine ⟨hli.kept (by omega) (fun x hx1 hx3 => ?_), HOk.out⟩
          have hno : u3.ownBlock ≠ some x := fun h => by have := own_block_le HOw.out h; omega
          have hws := hb.size
          refine ⟨(hC5 x (by omega) hno).trans (hzC.block x hx3), by show _ ≤ _; omega, ?_⟩
          rcases hob5 with e | e
          · rw [e]; exact hno
          · rw [e]; intro h; injection h with h; omega)
      have HOwn5 : Hid (w5.ownsRow w.heap.size 69 6 v5 (xs ++ [(s, Value.slice ua s.labs.length uc)]).length ((xs ++ [(s, Value.slice ua s.labs.length uc)]).flatMap cellsP)) := Lib.hid (by
        rw [List.length_append, List.flatMap_append]
        simpa [cellsP] using hown5)
      have HXM2 : Hid ((xs ++ [(s, Value.slice ua s.labs.length uc)]).map (·.1) = ls.take (k + 1)) := Lib.hid (by rw [List.map_append, HXM.out, List.take_add_one, HS.out]; rfl)
      have HCs3 := Lib.hid (HCs.out _ hd3)
      have hgr : g < wr.heap.size := by have := hb.size; omega
      have HCs4 := Lib.hid (by
        have hk : w5.heap[g]? = C.heap[g]? := hC5 g (by omega) (fun h => by have := (HOw.out.lt g h).1; omega)
        have c := HCs.out _ hd3
        exact (by rw [World.cell?_of_block (w := C) (w' := w5) (a := ⟨g, o + k * 6, none⟩) hk, World.cell?_of_block (w := C) (w' := w5) (a := ⟨g, o + k * 6 + 1, none⟩) hk, World.cell?_of_block (w := C) (w' := w5) (a := ⟨g, o + k * 6 + 1 + 1, none⟩) hk, World.cell?_of_block (w := C) (w' := w5) (a := ⟨g, o + k * 6 + 1 + 2, none⟩) hk, World.cell?_of_block (w := C) (w' := w5) (a := ⟨g, o + k * 6 + 1 + 3, none⟩) hk, World.cell?_of_block (w := C) (w' := w5) (a := ⟨g, o + k * 6 + 5, none⟩) hk]; exact c :
          w5.cell? ⟨g, o + k * 6, none⟩ = some (.string s.node) ∧ w5.cell? ⟨g, o + k * 6 + 1, none⟩ = some (.int .u64 (s.free 0)) ∧ w5.cell? ⟨g, o + k * 6 + 1 + 1, none⟩ = some (.int .u64 (s.free 1)) ∧ w5.cell? ⟨g, o + k * 6 + 1 + 2, none⟩ = some (.int .u64 (s.free 2)) ∧ w5.cell? ⟨g, o + k * 6 + 1 + 3, none⟩ = some (.int .u64 (s.free 3)) ∧ w5.cell? ⟨g, o + k * 6 + 5, none⟩ = some (.slice la s.labs.length lc)))
      rw [hC] at HCs3 hrun5
      clear hlo hli hzC hown5 hgr5 hob5 hC5 hC hCs hd3 hsz2 hsz5 hb2s hd1s hgr hb1 hb2
      (refine wpAnyH_take (i := 18) (v := ?_) rfl (by kernel_rfl) (by kernel_rfl) (by kernel_rfl) (fun _ _ _ h => h) (Or.inl ⟨by rfl, ?_⟩) hHeld ?_; rotate_left; focus (intro w hSw; (try dsimp only at hSw); go_simp; try with_reducible rfl))
      (refine wpAnyH_ready (rs := [19]) (by kernel_rfl) (by simp) ?_; refine AllReadyH.cons rfl (fun K hK => ?_) AllReadyH.nil; go_simp; refine hK.out _ _ HCs3.out (fun hHeld => ?_); clear hK K)
      (refine wpAnyH_ready (rs := [20]) (by kernel_rfl) (by simp) ?_; refine AllReadyH.cons rfl (fun K hK => ?_) AllReadyH.nil; refine step_append _ (by kernel_rfl) (.tmp 11) (.tmp 30) 32 32 (by kernel_rfl) u3 (.slice (some ⟨z2.heap.size, 0, none⟩) 1 1) (by kernel_rfl) (by kernel_rfl) v5 w5 hrun5 ?_; refine hK.out _ _ HCs4.out (fun hHeld => ?_); clear hK K)
      (refine wpAnyH_take (i := 21) (v := ?_) rfl (by kernel_rfl) (by kernel_rfl) (by kernel_rfl) (fun _ _ _ h => h) (Or.inl ⟨by rfl, ?_⟩) hHeld ?_; rotate_left; focus (intro w hSw; (try dsimp only at hSw); go_simp; try with_reducible rfl))
      refine wpAnyH_done (by kernel_rfl) ?_ _
      simp only [Act.put, List.getElem_toArray, List.getElem_cons_succ, List.getElem_cons_zero, List.setIfInBounds_toArray, List.set_cons_succ, List.set_cons_zero]
      go_wp2
      go_roundw
      case rel => exact ⟨k + 1, xs ++ [(s, .slice ua s.labs.length uc)], by omega, by go_num, by rw [List.length_append, hxl]; rfl, HXM2.out, HOwn5.out, HNew.out, hd4⟩
      case measure => simp [intOf]; omega
    · have hltz : ¬ (k : Int) < (ls.length : Int) := by omega
      have HR : Hid (SlRow wr u3 ls) := Lib.hid ((own_lrow (w0 := wr) hown (by rw [hxm, List.take_of_length_le (by omega)]) (fun p hp => ⟨(hin p hp).1.1, (hin p hp).2⟩)).slrow (Below.refl _ _))
      clear hown hin hxm hxl
      go_wp2
      go_ret
      exact ⟨⟨_, rfl, HR.out⟩, hb⟩
end Go.Proofs.Ytbefnophkaepmaa.Pack

/- What the statements' own texts answers; and what the program's own calls are to say of slots (proved elsewhere); of memory that was there nothing turns. -/
namespace Go.Proofs.Ytbefnophkaepmaa.Pack
open Go.RowKit Go.Proofs.Ytbefnophkaepmaa.Label Go.Proofs.Ytbefnophkaepmaa.Sel Go.Proofs.Ytbefnophkaepmaa.Vec Go.Proofs.Ytbefnophkaepmaa.Texts

theorem list_eq_of_toList {a b : ByteArray} (h : a.toList = b.toList) : a = b := by
  rw [Lib.toList_data, Lib.toList_data] at h
  cases a; cases b
  congr 1
  exact Array.toList_inj.1 h

set_option maxHeartbeats 2000000 in
set_option maxRecDepth 100000 in
theorem texts_rows (u v : Value) (a b : List ByteArray) (w : World) (hu : SRow w u a) (hv : SRow w v b) :
    Calls Try.prog 15 #[u, v] w fun e w' => e = .returned (.bool (decide (a = b))) ∧ Below w.heap.size w w' := by
  obtain ⟨x, cx, rfl, hx1, hx2⟩ := hu.slice
  obtain ⟨y, cy, rfl, _, _⟩ := hv.slice
  have ha : a.length ≤ 9223372036854775807 := by unfold maxLen at hx2; omega
  have HU := Lib.hid hu
  have HV := Lib.hid hv
  clear hu hv
  by_cases hl : a.length = b.length
  · have hln : ((a.length : Int) == (b.length : Int)) = true := by rw [hl]; simp
    have hlm : ((a.length : Int) != (b.length : Int)) = false := by rw [hl]; simp
    have HL := Lib.hid hl
    clear hl
    go_enter Try.func15, Try.ntmps15
    go_wp2
    go_loopw [5] (fun i wr => ∃ k : Nat, k ≤ a.length ∧ i = .int .i64 k ∧ a.take k = b.take k ∧ Below w.heap.size w wr) (fun i _ => a.length - (intOf i).toNat)
    case atStart => exact ⟨0, Nat.zero_le _, rfl, by simp, Below.refl _ _⟩
    case round =>
      obtain ⟨k, hk, rfl, ht, hb⟩ := hrel
      have HT := Lib.hid ht
      clear ht
      by_cases hlt : k < a.length
      · have hltz : (k : Int) < (a.length : Int) := by omega
        have hltb : k < b.length := by have := HL.out; omega
        have hltw : (k : Int) < (b.length : Int) := by omega
        have hk0 : (0 : Int) ≤ (k : Int) := by omega
        obtain ⟨g, o, rfl, hg, hc⟩ := HU.out.cells hlt
        obtain ⟨g', o', rfl, hg', hc'⟩ := HV.out.cells hltb
        obtain ⟨x, hx⟩ : ∃ x, a[k]? = some x := ⟨_, List.getElem?_eq_getElem hlt⟩
        obtain ⟨y, hy⟩ : ∃ y, b[k]? = some y := ⟨_, List.getElem?_eq_getElem hltb⟩
        have c1 := (hb.cell (p := ⟨g, o + k, none⟩) hg).trans (hc k x hx)
        have d1 := (hb.cell (p := ⟨g', o' + k, none⟩) hg').trans (hc' k y hy)
        have HA : Hid (a.take (k + 1) = a.take k ++ [x]) := Lib.hid (by rw [List.take_add_one, hx]; rfl)
        have HB : Hid (b.take (k + 1) = b.take k ++ [y]) := Lib.hid (by rw [List.take_add_one, hy]; rfl)
        have HX := Lib.hid hx
        have HY := Lib.hid hy
        obtain ⟨q, hq⟩ : ∃ q, (x.toList == y.toList) = q := ⟨_, rfl⟩
        have hqn : (x.toList != y.toList) = !q := by rw [← hq]; rfl
        have HQ := Lib.hid hq
        clear hx hy hc hc'
        cases q with
        | true =>
          go_wp2
          go_quiet (fail)
          go_wp2
          go_roundw
          case rel => exact ⟨k + 1, by omega, by go_num, by rw [HA.out, HB.out, HT.out, list_eq_of_toList (beq_iff_eq.1 HQ.out)], drewN_below hb _⟩
          case measure => simp [intOf]; omega
        | false =>
          have HE : Hid (decide (a = b) = false) := Lib.hid (decide_eq_false fun h => by
            have h1 := HX.out
            rw [h, HY.out] at h1
            have h2 : y = x := by simpa using h1
            have h3 := HQ.out
            rw [h2] at h3
            simp at h3)
          go_wp2
          go_quiet (fail)
          go_wp2
          go_ret
          exact ⟨by rw [HE.out]; rfl, drewN_below hb _⟩
      · have hltz : ¬ (k : Int) < (a.length : Int) := by omega
        have HE : Hid (decide (a = b) = true) := Lib.hid (decide_eq_true (by
          have h1 := HT.out
          rw [List.take_of_length_le (by omega), List.take_of_length_le (by have := HL.out; omega)] at h1
          exact h1))
        go_wp2
        go_ret
        exact ⟨by rw [HE.out]; rfl, hb⟩
  · have HE : Hid (decide (a = b) = false) := Lib.hid (decide_eq_false (fun h => hl (by rw [h])))
    have hln : ((a.length : Int) == (b.length : Int)) = false := by rw [beq_eq_false_iff_ne]; omega
    have hlm : ((a.length : Int) != (b.length : Int)) = true := by rw [bne_iff_ne]; omega
    clear hl
    go_enter Try.func15, Try.ntmps15
    go_wp2
    go_ret
    exact ⟨by rw [HE.out]; rfl, Below.refl _ _⟩

/-- What the two calls answer: as the document has it. -/
structure Says : Prop where
  room : ∀ (v u : Value) (ls : List Slot) (ts : List Tm) (d : Nat → Int) (n : Int) (w : World), SlRow w v ls → TRow w u ts → Sel.Fair ts → InRange d → ls.length * 72 ≤ 140737488355328 → -9223372036854775808 ≤ n ∧ n ≤ 9223372036854775807 →
    Calls Try.prog 16 #[v, u, vec (d 0) (d 1) (d 2) (d 3), .int .i64 n] w fun e w' => e = .returned (.int .i64 (roomN d n.toNat (seenAll ts ls) : Int)) ∧ Below w.heap.size w w'
  fit : ∀ (v u : Value) (ls : List Slot) (ts : List Tm) (d : Nat → Int) (n : Int) (w : World), SlRow w v ls → TRow w u ts → Sel.Fair ts → InRange d → ls.length * 72 ≤ 140737488355328 → -9223372036854775808 ≤ n ∧ n ≤ 9223372036854775807 →
    Calls Try.prog 10 #[v, u, vec (d 0) (d 1) (d 2) (d 3), .int .i64 n] w fun e w' => FitTold ls (fitX d n (seenAll ts ls)) e w' ∧ Below w.heap.size w w'
end Go.Proofs.Ytbefnophkaepmaa.Pack

/- The chapter's examples (chapter 13), by plain mathematics and in memory. -/
namespace Go.Proofs.Ytbefnophkaepmaa.Pack
open Go.RowKit Go.Proofs.Ytbefnophkaepmaa.Label Go.Proofs.Ytbefnophkaepmaa.Sel Go.Proofs.Ytbefnophkaepmaa.Vec Go.Proofs.Ytbefnophkaepmaa.Texts

def am (n : Int) : Nat → Int := fun i => if i = 0 then n else 0
theorem am_range {n : Int} (h : 0 ≤ n ∧ n ≤ 100) : InRange (am n) := by intro i _; unfold am; split <;> omega
def tA : ByteArray := ⟨#[97]⟩
def tB : ByteArray := ⟨#[98]⟩
def tZone : ByteArray := ⟨#[122, 111, 110, 101]⟩
def tX : ByteArray := ⟨#[120]⟩
def slotA : Slot := ⟨tA, am 4, []⟩
def slotB : Slot := ⟨tB, am 3, [(tZone, tX)]⟩
def zoneT : Tm := (tZone, false, [])
theorem okA : slotA.ok := ⟨am_range (by decide), by decide⟩
theorem okB : slotB.ok := ⟨am_range (by decide), by decide⟩
theorem fair_nil : Sel.Fair [] := ⟨by decide, by simp⟩
theorem fair_zone : Sel.Fair [zoneT] := by
  refine ⟨by decide, fun t ht => ?_⟩
  rw [List.mem_singleton.1 ht]
  exact ⟨by decide, by decide, by intro x hx; cases hx⟩
theorem seen_none : seenAll [] [slotA, slotB] = [(true, am 4), (true, am 3)] := rfl
theorem seen_zone : seenAll [zoneT] [slotA, slotB] = [(false, am 4), (true, am 3)] := by
  simp [seenAll, seen, matchS, findL, holdsT, slotA, slotB, zoneT, Lib.toList_data]
theorem fit2 : (fitX (am 2) 2 [(true, am 4), (true, am 3)]).map (·.1) = some [1, 0] := by kernel_rfl
theorem fit3 : (fitX (am 2) 3 [(true, am 4), (true, am 3)]).map (·.1) = some [1, 0, 0] := by kernel_rfl
theorem fit4 : fitX (am 2) 4 [(true, am 4), (true, am 3)] = none := by kernel_rfl
theorem fitZ : fitX (am 2) 2 [(false, am 4), (true, am 3)] = none := by kernel_rfl
theorem fit9 (d : V) (l : List Sl) : fitX d 9 l = none := by unfold fitX; rw [if_pos (by decide)]
theorem room8 : roomN (am 2) 8 [(true, am 4), (true, am 3)] = 3 := by kernel_rfl
theorem room2 : roomN (am 2) 2 [(true, am 4), (true, am 3)] = 2 := by kernel_rfl
theorem roomZ : roomN (am 2) 8 [(false, am 4), (true, am 3)] = 1 := by kernel_rfl
theorem fit_some {r : Option (List Nat × List Sl)} {js : List Nat} (h : r.map (·.1) = some js) : ∃ l, r = some (js, l) := by
  cases r with
  | none => cases h
  | some p => obtain ⟨a, b⟩ := p; cases h; exact ⟨b, rfl⟩
/-- The two slots, as they are laid. -/
theorem two_slots {w : World} {L T : Nat} {ty ty' : TypeId} {fr fr' : Nat × Nat} (hl : w.heap[L]? = some (.cells #[.string tZone, .string tX] ty fr)) (hs : w.heap[T]? = some (.cells #[.string tA, .int .u64 4, .int .u64 0, .int .u64 0, .int .u64 0, .slice none 0 0, .string tB, .int .u64 3, .int .u64 0, .int .u64 0, .int .u64 0, .slice (some ⟨L, 0, none⟩) 1 1] ty' fr')) :
    SlRow w (.slice (some ⟨T, 0, none⟩) 2 2) [slotA, slotB] := by
  have at_ : ∀ (b i : Nat) (cs : Array Value) (t : TypeId) (f : Nat × Nat) (v : Value), w.heap[b]? = some (.cells cs t f) → cs[i]? = some v → w.cell? ⟨b, i, none⟩ = some v := fun b i cs t f v h hi => by simp [World.cell?, h, hi]
  have hrow : Row w (.slice (some ⟨L, 0, none⟩) 1 1) [(tZone, tX)] := by
    refine .inr ⟨by simp, L, 0, 1, rfl, (Array.getElem?_eq_some_iff.1 hl).1, Nat.le_refl _, by decide, fun j x hj => ?_⟩
    match j with
    | 0 => simp at hj; subst hj; exact ⟨at_ _ _ _ _ _ _ hl rfl, at_ _ _ _ _ _ _ hl rfl⟩
    | j + 1 => simp at hj
  refine .inr ⟨by simp, T, 0, 2, rfl, (Array.getElem?_eq_some_iff.1 hs).1, Nat.le_refl _, by decide, fun j s hj => ?_⟩
  match j with
  | 0 =>
    simp at hj; subst hj
    refine ⟨.slice none 0 0, fun i v hi => ?_, .inl ⟨rfl, _, _, rfl, Nat.zero_le _⟩, okA⟩
    match i with
    | 0 => cases hi; exact at_ _ _ _ _ _ _ hs rfl
    | 1 => cases hi; exact at_ _ _ _ _ _ _ hs rfl
    | 2 => cases hi; exact at_ _ _ _ _ _ _ hs rfl
    | 3 => cases hi; exact at_ _ _ _ _ _ _ hs rfl
    | 4 => cases hi; exact at_ _ _ _ _ _ _ hs rfl
    | 5 => cases hi; exact at_ _ _ _ _ _ _ hs rfl
    | i + 6 => simp [cellsS] at hi
  | 1 =>
    simp at hj; subst hj
    refine ⟨.slice (some ⟨L, 0, none⟩) 1 1, fun i v hi => ?_, hrow, okB⟩
    match i with
    | 0 => cases hi; exact at_ _ _ _ _ _ _ hs rfl
    | 1 => cases hi; exact at_ _ _ _ _ _ _ hs rfl
    | 2 => cases hi; exact at_ _ _ _ _ _ _ hs rfl
    | 3 => cases hi; exact at_ _ _ _ _ _ _ hs rfl
    | 4 => cases hi; exact at_ _ _ _ _ _ _ hs rfl
    | 5 => cases hi; exact at_ _ _ _ _ _ _ hs rfl
    | i + 6 => simp [cellsS] at hi
  | j + 2 => simp at hj
/-- The selector of the examples, as it is laid. -/
theorem zone_row {w : World} {T : Nat} {ty : TypeId} {fr : Nat × Nat} (hs : w.heap[T]? = some (.cells #[.string tZone, .bool false, .slice none 0 0] ty fr)) : TRow w (.slice (some ⟨T, 0, none⟩) 1 1) [zoneT] := by
  have at_ : ∀ (i : Nat) (v : Value), (#[.string tZone, .bool false, .slice none 0 0] : Array Value)[i]? = some v → w.cell? ⟨T, i, none⟩ = some v := fun i v hi => by simp [World.cell?, hs, hi]
  refine .inr ⟨by simp, T, 0, 1, rfl, (Array.getElem?_eq_some_iff.1 hs).1, Nat.le_refl _, by decide, fun j t hj => ?_⟩
  match j with
  | 0 =>
    simp at hj; subst hj
    exact ⟨at_ 0 _ rfl, at_ 1 _ rfl, _, at_ 2 _ rfl, .inl ⟨rfl, _, _, rfl, Nat.zero_le _⟩⟩
  | j + 1 => simp at hj
/-- Texts that were laid side by side. -/
theorem texts_row {w : World} {T : Nat} {ty : TypeId} {fr : Nat × Nat} (ts : List ByteArray) (hne : ts ≠ []) (h63 : ts.length ≤ 100) (hs : w.heap[T]? = some (.cells (svals ts).toArray ty fr)) : SRow w (.slice (some ⟨T, 0, none⟩) ts.length ts.length) ts := by
  refine .inr ⟨hne, T, 0, ts.length, rfl, (Array.getElem?_eq_some_iff.1 hs).1, Nat.le_refl _, by unfold maxLen; omega, fun j t hj => ?_⟩
  have : (svals ts).toArray[j]? = some (.string t) := by unfold svals; simp [hj]
  simp [World.cell?, hs, this]
end Go.Proofs.Ytbefnophkaepmaa.Pack

/- The chapter's examples hold (chapter 13), if the program's calls say what they are to say. -/
namespace Go.Proofs.Ytbefnophkaepmaa.Pack
open Go.RowKit Go.Proofs.Ytbefnophkaepmaa.Label Go.Proofs.Ytbefnophkaepmaa.Sel Go.Proofs.Ytbefnophkaepmaa.Vec Go.Proofs.Ytbefnophkaepmaa.Texts

set_option maxHeartbeats 8000000 in
set_option maxRecDepth 100000 in
theorem examples_any (S : Says) (w : World) : Calls Try.prog 9 #[] w fun e w' => e = .returned (.bool true) ∧ Below w.heap.size w w' := by
  have hsm : ([slotA, slotB] : List Slot).length * 72 ≤ 140737488355328 := by decide
  have F2 := fun v w (h : SlRow w v [slotA, slotB]) => Lib.hid (S.fit v (.slice none 0 0) _ [] (am 2) 2 w h (TRow.nil w) fair_nil (am_range (by decide)) hsm (by decide))
  have F3 := fun v w (h : SlRow w v [slotA, slotB]) => Lib.hid (S.fit v (.slice none 0 0) _ [] (am 2) 3 w h (TRow.nil w) fair_nil (am_range (by decide)) hsm (by decide))
  have F4 := fun v w (h : SlRow w v [slotA, slotB]) => Lib.hid (S.fit v (.slice none 0 0) _ [] (am 2) 4 w h (TRow.nil w) fair_nil (am_range (by decide)) hsm (by decide))
  have FZ := fun v u w (h : SlRow w v [slotA, slotB]) (g : TRow w u [zoneT]) => Lib.hid (S.fit v u _ [zoneT] (am 2) 2 w h g fair_zone (am_range (by decide)) hsm (by decide))
  have F9 := fun v w (h : SlRow w v [slotA, slotB]) => Lib.hid (S.fit v (.slice none 0 0) _ [] (am 0) 9 w h (TRow.nil w) fair_nil (am_range (by decide)) hsm (by decide))
  have R8 := fun v w (h : SlRow w v [slotA, slotB]) => Lib.hid (S.room v (.slice none 0 0) _ [] (am 2) 8 w h (TRow.nil w) fair_nil (am_range (by decide)) hsm (by decide))
  have R2 := fun v w (h : SlRow w v [slotA, slotB]) => Lib.hid (S.room v (.slice none 0 0) _ [] (am 2) 2 w h (TRow.nil w) fair_nil (am_range (by decide)) hsm (by decide))
  have RZ := fun v u w (h : SlRow w v [slotA, slotB]) (g : TRow w u [zoneT]) => Lib.hid (S.room v u _ [zoneT] (am 2) 8 w h g fair_zone (am_range (by decide)) hsm (by decide))
  obtain ⟨l2, e2⟩ := fit_some fit2
  obtain ⟨l3, e3⟩ := fit_some fit3
  rw [seen_none] at F2 F3 F4 F9 R8 R2
  rw [seen_zone] at FZ RZ
  rw [e2] at F2
  rw [e3] at F3
  rw [fit4] at F4
  rw [fitZ] at FZ
  rw [fit9] at F9
  rw [show (8 : Int).toNat = 8 from rfl, room8] at R8
  rw [show (2 : Int).toNat = 2 from rfl, room2] at R2
  rw [show (8 : Int).toNat = 8 from rfl, roomZ] at RZ
  have a0 : am 2 0 = 2 := rfl
  have a1 : am 2 1 = 0 := rfl
  have a2 : am 2 2 = 0 := rfl
  have a3 : am 2 3 = 0 := rfl
  have z0 : am 0 0 = 0 := rfl
  have z1 : am 0 1 = 0 := rfl
  have z2 : am 0 2 = 0 := rfl
  have z3 : am 0 3 = 0 := rfl
  unfold vec at F2 F3 F4 FZ F9 R8 R2 RZ
  simp only [a0, a1, a2, a3, z0, z1, z2, z3, Int.cast_ofNat_Int] at F2 F3 F4 FZ F9 R8 R2 RZ
  have HT := Lib.hid (fun u v a b w (hu : SRow w u a) (hv : SRow w v b) => texts_rows u v a b w hu hv)
  clear a0 a1 a2 a3 z0 z1 z2 z3 e2 e3 S hsm
  go_enter Try.func9, Try.ntmps9
  go_upto_region 3 with fail
  obtain ⟨W, hW⟩ : ∃ W, W = ((w.alloc (.cells #[.string ⟨#[122, 111, 110, 101]⟩, .string ⟨#[120]⟩] 57)).alloc (.cells #[.string ⟨#[97]⟩, .int .u64 4, .int .u64 0, .int .u64 0, .int .u64 0, .slice none 0 0, .string ⟨#[98]⟩, .int .u64 3, .int .u64 0, .int .u64 0, .int .u64 0, .slice (some ⟨w.heap.size, 0, none⟩) 1 1] 47)).alloc (.cells #[.int .u64 2, .int .u64 0, .int .u64 0, .int .u64 0] 26) := ⟨_, rfl⟩
  have s1 : (w.alloc (.cells #[.string ⟨#[122, 111, 110, 101]⟩, .string ⟨#[120]⟩] 57)).heap.size = w.heap.size + 1 := World.size_alloc ..
  have s2 : ((w.alloc (.cells #[.string ⟨#[122, 111, 110, 101]⟩, .string ⟨#[120]⟩] 57)).alloc (.cells #[.string ⟨#[97]⟩, .int .u64 4, .int .u64 0, .int .u64 0, .int .u64 0, .slice none 0 0, .string ⟨#[98]⟩, .int .u64 3, .int .u64 0, .int .u64 0, .int .u64 0, .slice (some ⟨w.heap.size, 0, none⟩) 1 1] 47)).heap.size = w.heap.size + 2 := by rw [World.size_alloc, s1]
  have hwW : Below w.heap.size w W := by rw [hW]; exact (((Below.refl _ _).alloc (Nat.le_refl _) _).alloc (by omega) _).alloc (by omega) _
  have h0 : W.heap[w.heap.size]? = some (.cells #[.string ⟨#[122, 111, 110, 101]⟩, .string ⟨#[120]⟩] 57) := by rw [hW, heap_alloc_old _ _ (by omega), heap_alloc_old _ _ (by omega)]; exact heap_alloc_new _ _
  have h1 : W.heap[w.heap.size + 1]? = some (.cells #[.string ⟨#[97]⟩, .int .u64 4, .int .u64 0, .int .u64 0, .int .u64 0, .slice none 0 0, .string ⟨#[98]⟩, .int .u64 3, .int .u64 0, .int .u64 0, .int .u64 0, .slice (some ⟨w.heap.size, 0, none⟩) 1 1] 47) := by rw [hW, heap_alloc_old _ _ (by omega)]; have := heap_alloc_new (w.alloc (.cells #[.string ⟨#[122, 111, 110, 101]⟩, .string ⟨#[120]⟩] 57)) (.cells #[.string ⟨#[97]⟩, .int .u64 4, .int .u64 0, .int .u64 0, .int .u64 0, .slice none 0 0, .string ⟨#[98]⟩, .int .u64 3, .int .u64 0, .int .u64 0, .int .u64 0, .slice (some ⟨w.heap.size, 0, none⟩) 1 1] 47); rw [s1] at this; exact this
  have h2 : W.heap[w.heap.size + 2]? = some (.cells #[.int .u64 2, .int .u64 0, .int .u64 0, .int .u64 0] 26) := by rw [hW]; have := heap_alloc_new ((w.alloc (.cells #[.string ⟨#[122, 111, 110, 101]⟩, .string ⟨#[120]⟩] 57)).alloc (.cells #[.string ⟨#[97]⟩, .int .u64 4, .int .u64 0, .int .u64 0, .int .u64 0, .slice none 0 0, .string ⟨#[98]⟩, .int .u64 3, .int .u64 0, .int .u64 0, .int .u64 0, .slice (some ⟨w.heap.size, 0, none⟩) 1 1] 47)) (.cells #[.int .u64 2, .int .u64 0, .int .u64 0, .int .u64 0] 26); rw [s2] at this; exact this
  have hsW : w.heap.size + 2 < W.heap.size := (Array.getElem?_eq_some_iff.1 h2).1
  have hrow : SlRow W (.slice (some ⟨w.heap.size + 1, 0, none⟩) 2 2) [slotA, slotB] := two_slots h0 h1
  have HR := Lib.hid (fun w' (h : Below W.heap.size W w') => hrow.below h)
  have HB := Lib.hid (fun w' (h : Below W.heap.size W w') => (by have e := (h.block _ hsW).trans h2; exact ⟨cell_at e rfl, cell_at e rfl, cell_at e rfl, cell_at e rfl⟩ : w'.cell? ⟨w.heap.size + 1 + 1, 0, none⟩ = some (.int .u64 2) ∧ w'.cell? ⟨w.heap.size + 1 + 1, 1, none⟩ = some (.int .u64 0) ∧ w'.cell? ⟨w.heap.size + 1 + 1, 2, none⟩ = some (.int .u64 0) ∧ w'.cell? ⟨w.heap.size + 1 + 1, 3, none⟩ = some (.int .u64 0)))
  rw [← hW]
  have HwW := Lib.hid hwW
  clear hW s1 s2 h0 h1 h2 hsW hrow hwW
  obtain ⟨c0, c1, c2, c3⟩ := HB.out _ (Below.refl W.heap.size W)
  go_wp2_with fail
  (with_reducible refine (F2 _ _ (HR.out _ (Below.refl W.heap.size W))).out.mono ?_)
  rintro _ w1 ⟨⟨o1, rfl, r1⟩, b1⟩
  have H1 := Lib.hid b1
  have R1 := Lib.hid (show SRow w1 o1 [tB, tA] from r1)
  clear c0 c1 c2 c3 b1 r1 F2
  obtain ⟨c0, c1, c2, c3⟩ := HB.out _ H1.out
  go_wp2_with fail
  (with_reducible refine (F3 _ _ (HR.out _ H1.out)).out.mono ?_)
  rintro _ w2 ⟨⟨o2, rfl, r2⟩, b2⟩
  have H2 := Lib.hid (H1.out.trans (b2.mono H1.out.size))
  have R1 := Lib.hid (R1.out.below b2)
  have R2' := Lib.hid (show SRow w2 o2 [tB, tA, tA] from r2)
  clear c0 c1 c2 c3 b2 r2 F3
  obtain ⟨c0, c1, c2, c3⟩ := HB.out _ H2.out
  go_wp2_with fail
  (with_reducible refine (F4 _ _ (HR.out _ H2.out)).out.mono ?_)
  rintro _ w3 ⟨h3, b3⟩
  unfold FitTold at h3
  subst h3
  have H3 := Lib.hid (H2.out.trans (b3.mono H2.out.size))
  have R1 := Lib.hid (R1.out.below b3)
  have R2' := Lib.hid (R2'.out.below b3)
  clear c0 c1 c2 c3 b3 F4
  have hz3 : Below w3.heap.size w3 (w3.alloc (.cells #[.string ⟨#[122, 111, 110, 101]⟩, .bool false, .slice none 0 0] 59)) := (Below.refl _ _).alloc (Nat.le_refl _) _
  have H3z := Lib.hid (H3.out.trans (hz3.mono H3.out.size))
  have Z3 : Hid (TRow (w3.alloc (.cells #[.string ⟨#[122, 111, 110, 101]⟩, .bool false, .slice none 0 0] 59)) (.slice (some ⟨w3.heap.size, 0, none⟩) 1 1) [zoneT]) := Lib.hid (zone_row (heap_alloc_new _ _))
  obtain ⟨c0, c1, c2, c3⟩ := HB.out _ H3z.out
  go_wp2_with fail
  (with_reducible refine (FZ _ _ _ (HR.out _ H3z.out) Z3.out).out.mono ?_)
  rintro _ w4 ⟨h4, b4⟩
  unfold FitTold at h4
  subst h4
  have H4 := Lib.hid (H3z.out.trans (b4.mono H3z.out.size))
  have R1 := Lib.hid ((R1.out.below hz3).below b4)
  have R2' := Lib.hid ((R2'.out.below hz3).below b4)
  clear c0 c1 c2 c3 b4 FZ Z3 H3z hz3
  go_wp2_with fail
  (with_reducible refine (F9 _ _ (HR.out _ H4.out)).out.mono ?_)
  rintro _ w5 ⟨h5, b5⟩
  unfold FitTold at h5
  subst h5
  have H5 := Lib.hid (H4.out.trans (b5.mono H4.out.size))
  have R1 := Lib.hid (R1.out.below b5)
  have R2' := Lib.hid (R2'.out.below b5)
  clear b5 F9 H1 H2 H3 H4
  have ht5 : Below w5.heap.size w5 (w5.alloc (.cells #[.string ⟨#[98]⟩, .string ⟨#[97]⟩] 9)) := (Below.refl _ _).alloc (Nat.le_refl _) _
  have H5t := Lib.hid (H5.out.trans (ht5.mono H5.out.size))
  have X5 : Hid (SRow (w5.alloc (.cells #[.string ⟨#[98]⟩, .string ⟨#[97]⟩] 9)) (.slice (some ⟨w5.heap.size, 0, none⟩) 2 2) [tB, tA]) := Lib.hid (texts_row [tB, tA] (by simp) (by decide) (heap_alloc_new w5 (.cells #[.string ⟨#[98]⟩, .string ⟨#[97]⟩] 9)))
  have C1 := Lib.hid (HT.out _ _ _ _ _ (R1.out.below ht5) X5.out)
  rw [decide_eq_true (rfl : [tB, tA] = [tB, tA])] at C1
  have R2' := Lib.hid (R2'.out.below ht5)
  clear ht5 X5
  go_wp2_with fail
  (with_reducible refine C1.out.mono ?_)
  rintro _ w6 ⟨rfl, b6⟩
  have H6 := Lib.hid (H5t.out.trans (b6.mono H5t.out.size))
  have R2' := Lib.hid (R2'.out.below b6)
  clear b6 C1 H5t H5
  have ht6 : Below w6.heap.size w6 (w6.alloc (.cells #[.string ⟨#[98]⟩, .string ⟨#[97]⟩, .string ⟨#[97]⟩] 9)) := (Below.refl _ _).alloc (Nat.le_refl _) _
  have H6t := Lib.hid (H6.out.trans (ht6.mono H6.out.size))
  have X6 : Hid (SRow (w6.alloc (.cells #[.string ⟨#[98]⟩, .string ⟨#[97]⟩, .string ⟨#[97]⟩] 9)) (.slice (some ⟨w6.heap.size, 0, none⟩) 3 3) [tB, tA, tA]) := Lib.hid (texts_row [tB, tA, tA] (by simp) (by decide) (heap_alloc_new w6 (.cells #[.string ⟨#[98]⟩, .string ⟨#[97]⟩, .string ⟨#[97]⟩] 9)))
  have C2 := Lib.hid (HT.out _ _ _ _ _ (R2'.out.below ht6) X6.out)
  rw [decide_eq_true (rfl : [tB, tA, tA] = [tB, tA, tA])] at C2
  clear ht6 X6
  go_wp2_with fail
  (with_reducible refine C2.out.mono ?_)
  rintro _ w7 ⟨rfl, b7⟩
  have H7 := Lib.hid (H6t.out.trans (b7.mono H6t.out.size))
  clear b7 C2 H6t H6
  obtain ⟨c0, c1, c2, c3⟩ := HB.out _ H7.out
  go_wp2_with fail
  (with_reducible refine (R8 _ _ (HR.out _ H7.out)).out.mono ?_)
  rintro _ w8 ⟨rfl, b8⟩
  have H8 := Lib.hid (H7.out.trans (b8.mono H7.out.size))
  clear c0 c1 c2 c3 b8 R8 H7
  obtain ⟨c0, c1, c2, c3⟩ := HB.out _ H8.out
  go_wp2_with fail
  (with_reducible refine (R2 _ _ (HR.out _ H8.out)).out.mono ?_)
  rintro _ w9 ⟨rfl, b9⟩
  have H9 := Lib.hid (H8.out.trans (b9.mono H8.out.size))
  clear c0 c1 c2 c3 b9 R2 H8
  have hz9 : Below w9.heap.size w9 (w9.alloc (.cells #[.string ⟨#[122, 111, 110, 101]⟩, .bool false, .slice none 0 0] 59)) := (Below.refl _ _).alloc (Nat.le_refl _) _
  have H9z := Lib.hid (H9.out.trans (hz9.mono H9.out.size))
  have Z9 : Hid (TRow (w9.alloc (.cells #[.string ⟨#[122, 111, 110, 101]⟩, .bool false, .slice none 0 0] 59)) (.slice (some ⟨w9.heap.size, 0, none⟩) 1 1) [zoneT]) := Lib.hid (zone_row (heap_alloc_new _ _))
  obtain ⟨c0, c1, c2, c3⟩ := HB.out _ H9z.out
  go_wp2_with fail
  (with_reducible refine (RZ _ _ _ (HR.out _ H9z.out) Z9.out).out.mono ?_)
  rintro _ wx ⟨rfl, bx⟩
  have hF := HwW.out.trans ((H9z.out.trans (bx.mono H9z.out.size)).mono HwW.out.size)
  go_wp2
  go_ret
  exact ⟨rfl, hF⟩
end Go.Proofs.Ytbefnophkaepmaa.Pack

/- A region that draws its order and ends in a store that waits for all the rest: what it loads may be taken first where a condition holds ahead of that store. Of no program. -/
namespace Go.Proofs.Ytbefnophkaepmaa.Held
open Go Go.RowKit

/-- Does operation k wait for i, by way of others? -/
def waits (md : Region.Mode) (ops : Array Oper) : Nat → Nat → Nat → Bool
  | 0, _, _ => false
  | f + 1, k, i => match ops[k]? with
    | none => false
    | some o => o.after.toList.any fun e => Region.binds md e && (e.on == i || waits md ops f e.on i)
/-- Of each operation that has come up, all that it waits for has come up. -/
def Closed (md : Region.Mode) (ops : Array Oper) (listed : Array Bool) : Prop :=
  ∀ k o, ops[k]? = some o → listed.getD k true = true → ∀ e ∈ o.after, Region.binds md e = true → listed.getD e.on false = true
theorem closed_none (md : Region.Mode) (ops : Array Oper) : Closed md ops (Array.replicate ops.size false) := fun k o ho hl => by
  have hk := (Array.getElem?_eq_some_iff.1 ho).1
  simp [hk] at hl

section
variable {P : Program} {ops : Array Oper} {Q : Exit → Act → World → Prop} {md : Region.Mode} {S : World → Prop} {m : Nat}

theorem getD_true {l : Array Bool} {k : Nat} (h : l.getD k false = true) : l.getD k true = true := by
  rcases Nat.lt_or_ge k l.size with h' | h'
  · simp [h'] at h ⊢; exact h
  · simp [h']
theorem Closed.set {listed : Array Bool} {j : Nat} (h : Closed md ops listed) (hj : j ∈ Region.ready md ops listed) : Closed md ops (listed.setIfInBounds j true) := fun k o ho hl e he hb => by
  by_cases hkj : j = k
  · subst hkj
    obtain ⟨_, o', ho', hall⟩ := mem_ready.1 hj
    rw [ho] at ho'
    injection ho' with ho'
    subst ho'
    exact getD_set_true (hall e he hb)
  · rw [getD_set_ne true hkj] at hl
    exact getD_set_true (h k o ho hl e he hb)
theorem waits_listed {listed : Array Bool} (h : Closed md ops listed) : ∀ (f k i : Nat), (∀ o, ops[k]? = some o → ∀ e ∈ o.after, Region.binds md e = true → listed.getD e.on false = true) → waits md ops f k i = true → listed.getD i false = true
  | 0, _, _, _, hw => by simp [waits] at hw
  | f + 1, k, i, ha, hw => by
    unfold waits at hw
    split at hw
    · cases hw
    rename_i o ho
    obtain ⟨e, he, hb⟩ := List.any_eq_true.1 hw
    rw [Bool.and_eq_true, Bool.or_eq_true, beq_iff_eq] at hb
    have hl := ha o ho e (Array.mem_toList_iff.1 he) hb.1
    rcases hb.2 with h1 | h1
    · rw [← h1]; exact hl
    · exact waits_listed h f e.on i (fun o' ho' => h e.on o' ho' (getD_true hl)) h1

/-- Whatever order is picked from here on; behind each operation but the last one, S. -/
def wpAnyX (P : Program) (md : Region.Mode) (ops : Array Oper) (Q : Exit → Act → World → Prop) (S : World → Prop) (m : Nat) : Nat → Array Bool → Act → World → Prop
  | 0, listed, a, w => Region.ready md ops listed = [] ∧ Q .normal a w
  | fuel + 1, listed, a, w =>
    (Region.ready md ops listed = [] → Q .normal a w) ∧
    ∀ i ∈ Region.ready md ops listed, wpOp P ops Q i (fun a' w' => (i ≠ m → S w') ∧ wpAnyX P md ops Q S m fuel (listed.setIfInBounds i true) a' w') a w
theorem any_of : ∀ (fuel : Nat) (listed : Array Bool) (a : Act) (w : World), wpAnyX P md ops Q S m fuel listed a w → wpAny P md ops Q fuel listed a w
  | 0, _, _, _, h => h
  | fuel + 1, _, _, _, h => ⟨h.1, fun i hi => wpOp_mono (fun a' w' h' => any_of fuel _ a' w' h'.2) (h.2 i hi)⟩
theorem first {i : Nat} {oi : Oper} {v : Value} (hi : ops[i]? = some oi) (hsel : ∀ (j : Nat) (o : Oper) cs b, ops[j]? = some o → o.op ≠ .select cs b)
    (hQ : ∀ c a w, Q (.panic c) (a.put oi.dst v) w → Q (.panic c) a w) (f : Nat) (hw : waits md ops f m i = true) :
    ∀ (fuel : Nat) (listed : Array Bool) (a : Act) (w : World),
      (∀ j oj, ops[j]? = some oj → j ≠ i → listed.getD j true = false → (∀ e ∈ oj.after, Region.binds md e = true → e.on ≠ i) → oi.apart ops oj = true) →
      Closed md ops listed → i ∈ Region.ready md ops listed → YieldsIf P ops S oi v a → S w →
      wpAnyX P md ops Q S m fuel (listed.setIfInBounds i true) (a.put oi.dst v) w → wpAnyX P md ops Q S m (fuel + 1) listed a w := by
  intro fuel
  induction fuel with
  | zero =>
    intro listed a w _ _ hr hy hS H
    refine ⟨fun h => (by rw [h] at hr; cases hr), fun j hj => ?_⟩
    by_cases hji : j = i
    · subst hji; exact hy.wpOp hi hS ⟨fun _ => hS, H⟩
    · have := ready_mono hj hji
      rw [H.1] at this
      cases this
  | succ fuel ih =>
    intro listed a w hfree hc hr hy hS H
    refine ⟨fun h => (by rw [h] at hr; cases hr), fun j hj => ?_⟩
    by_cases hji : j = i
    · subst hji; exact hy.wpOp hi hS ⟨fun _ => hS, H⟩
    · have h1 := H.2 j (ready_mono hj hji)
      obtain ⟨hjun, oj, hoj, hall⟩ := mem_ready.1 hj
      have hjm : j ≠ m := fun hjm => by
        subst hjm
        have h2 := waits_listed hc f j i (fun o ho e he hb => by rw [hoj] at ho; injection ho with ho; subst ho; exact hall e he hb) hw
        have h0 := (mem_ready.1 hr).1
        rw [getD_true h2] at h0
        cases h0
      have hnot : ∀ e ∈ oj.after, Region.binds md e = true → e.on ≠ i := fun e he hb heq => by
        have h1 := hall e he hb
        have h0 := (mem_ready.1 hr).1
        rw [heq] at h1
        rw [getD_true h1] at h0
        cases h0
      have h2 := wpOp_putIf hoj (hfree j oj hoj hji hjun hnot) (fun cs b => hsel i oi cs b hi) (fun cs b => hsel j oj cs b hoj) hQ hy h1
      have hfree' : ∀ k ok, ops[k]? = some ok → k ≠ i → (listed.setIfInBounds j true).getD k true = false →
          (∀ e ∈ ok.after, Region.binds md e = true → e.on ≠ i) → oi.apart ops ok = true := fun k ok hk hki hun hno => by
        refine hfree k ok hk hki ?_ hno
        by_cases hjk : j = k
        · subst hjk; exact hjun
        · rw [getD_set_ne true hjk] at hun; exact hun
      refine wpOp_mono (fun a' w' h3 => ⟨h3.2.1, ih (listed.setIfInBounds j true) a' w' hfree' (hc.set hj) (ready_mono hr (Ne.symm hji)) h3.1 (h3.2.1 hjm) ?_⟩) h2
      rw [Array.setIfInBounds_comm _ _ hji]
      exact h3.2.2

/-- So many operations have come up, in this order, each when it might. -/
def reach (md : Region.Mode) (ops : Array Oper) : List Nat → Array Bool → Option (Array Bool)
  | [], l => some l
  | i :: is, l => if (Region.ready md ops l).contains i then reach md ops is (l.setIfInBounds i true) else none
theorem reach_closed : ∀ (is : List Nat) (l l' : Array Bool), Closed md ops l → reach md ops is l = some l' → Closed md ops l'
  | [], l, l', h, hr => by simp [reach] at hr; subst hr; exact h
  | i :: is, l, l', h, hr => by
    unfold reach at hr
    split at hr
    · rename_i hc
      exact reach_closed is _ l' (h.set (by simpa using hc)) hr
    · cases hr
/-- The same as a Bool, for the kernel. -/
def closedB (md : Region.Mode) (ops : Array Oper) (listed : Array Bool) : Bool :=
  (List.range ops.size).all fun k => !(listed.getD k true) || (match ops[k]? with | none => true | some o => o.after.toList.all fun e => !(Region.binds md e) || listed.getD e.on false)
theorem closed_of {listed : Array Bool} (h : closedB md ops listed = true) : Closed md ops listed := fun k o ho hl e he hb => by
  have hk := (Array.getElem?_eq_some_iff.1 ho).1
  have h1 := List.all_eq_true.1 h k (List.mem_range.2 hk)
  rw [hl, ho] at h1
  simp only [Bool.not_true, Bool.false_or] at h1
  have h2 := List.all_eq_true.1 h1 e (Array.mem_toList_iff.2 he)
  rw [hb] at h2
  simpa using h2

/-- Take number i first. -/
theorem take {i : Nat} {oi : Oper} {v : Value} {fuel : Nat} {listed : Array Bool} {a : Act} {w : World} (hi : ops[i]? = some oi)
    (hs : Region.noSelect ops = true) (hf : Region.free md ops listed i = true) (hr : (Region.ready md ops listed).contains i = true) (hw : waits md ops ops.size m i = true) (hc : closedB md ops listed = true)
    (hQ : ∀ c a w, Q (.panic c) (a.put oi.dst v) w → Q (.panic c) a w) (hy : YieldsIf P ops S oi v a) (hS : S w)
    (h : wpAnyX P md ops Q S m fuel (listed.setIfInBounds i true) (a.put oi.dst v) w) : wpAnyX P md ops Q S m (fuel + 1) listed a w :=
  first hi (Region.noSelect_spec hs) hQ _ hw fuel listed a w (Region.free_spec hi hf) (closed_of hc) (by simpa using hr) hy hS h

def Ready (P : Program) (md : Region.Mode) (ops : Array Oper) (Q : Exit → Act → World → Prop) (S : World → Prop) (m fuel : Nat) (listed : Array Bool) (a : Act) (w : World) (rs : List Nat) : Prop :=
  ∀ i ∈ rs, wpOp P ops Q i (fun a' w' => (i ≠ m → S w') ∧ wpAnyX P md ops Q S m fuel (listed.setIfInBounds i true) a' w') a w
theorem Ready.nil {fuel : Nat} {listed : Array Bool} {a : Act} {w : World} : Ready P md ops Q S m fuel listed a w [] := fun _ h => by cases h
/-- One that is not the last: S is to be shown anew. -/
theorem Ready.cons {fuel : Nat} {listed : Array Bool} {a : Act} {w : World} {i : Nat} {o : Oper} {rs : List Nat} (ho : ops[i]? = some o)
    (h : ∀ K' : Act → World → Prop, Shut (∀ a w, S w → (S w → wpAnyX P md ops Q S m fuel (listed.setIfInBounds i true) a w) → K' a w) → if Region.wanted o (yielded ops a.tmps) = true then Oper.wp P o a w K' Q else K' (a.put o.dst undef) w)
    (hs : Ready P md ops Q S m fuel listed a w rs) : Ready P md ops Q S m fuel listed a w (i :: rs) := fun j hj => by
  rcases List.mem_cons.1 hj with rfl | hj
  · exact wpOp_step ho (fun K' hK => h K' (fun a w hS hW => hK a w ⟨fun _ => hS, hW hS⟩))
  · exact hs j hj
/-- The last one. -/
theorem Ready.last {fuel : Nat} {listed : Array Bool} {a : Act} {w : World} {o : Oper} (ho : ops[m]? = some o)
    (h : ∀ K' : Act → World → Prop, Shut (∀ a w, wpAnyX P md ops Q S m fuel (listed.setIfInBounds m true) a w → K' a w) → if Region.wanted o (yielded ops a.tmps) = true then Oper.wp P o a w K' Q else K' (a.put o.dst undef) w) :
    Ready P md ops Q S m fuel listed a w [m] := fun j hj => by
  rcases List.mem_cons.1 hj with rfl | hj
  · exact wpOp_step ho (fun K' hK => h K' (fun a w hW => hK a w ⟨fun hn => absurd rfl hn, hW⟩))
  · cases hj
theorem ready {rs : List Nat} {fuel : Nat} {listed : Array Bool} {a : Act} {w : World} (hr : Region.ready md ops listed = rs) (hne : rs ≠ [])
    (h : Ready P md ops Q S m fuel listed a w rs) : wpAnyX P md ops Q S m (fuel + 1) listed a w :=
  ⟨fun h0 => absurd (hr ▸ h0) hne, hr ▸ h⟩
theorem done {listed : Array Bool} {a : Act} {w : World} (hr : Region.ready md ops listed = []) (h : Q .normal a w) : ∀ fuel, wpAnyX P md ops Q S m fuel listed a w
  | 0 => ⟨hr, h⟩
  | _ + 1 => ⟨fun _ => h, by rw [hr]; simp⟩
/-- The beginning. -/
theorem start {id : Nat} {a : Act} {w : World} (hm : P.follows .mixedOrders = true) (hS : S w.drew)
    (h : S w.drew → wpAnyX P .any ops Q S m ops.size (Array.replicate ops.size false) a w.drew) : (Code.region id ops true).wp P Q a w :=
  wp_region_any hm (any_of _ _ _ _ (h hS))
end
end Go.Proofs.Ytbefnophkaepmaa.Held

/- A region that draws, operation by operation, in a great frame: what an operation yields is given outright, and the kernel reckons it; no operation is ever written out. Of no program. -/
namespace Go.Proofs.Ytbefnophkaepmaa.Step
open Go Go.RowKit

/-- What operation number i does. -/
def runAt (P : Program) (ops : Array Oper) (i : Nat) (ρ : Operand → Value) (w : World) : Result Next := match ops[i]? with
  | some o => (execOp ρ o).run P w
  | none => .ok .skip w
def opAt (ops : Array Oper) (i : Nat) : Option Op := ops[i]?.map (·.op)
def dstAt (ops : Array Oper) (i : Nat) : Option (Option Tmp) := ops[i]?.map (·.dst)
def wantedAt (ops : Array Oper) (i : Nat) (t : Array Value) : Bool := match ops[i]? with
  | some o => Region.wanted o (yielded ops t)
  | none => false

section
variable {P : Program} {ops : Array Oper} {Q : Exit → Act → World → Prop} {md : Region.Mode} {S : World → Prop} {m : Nat}
theorem of_dst {i : Nat} {d : Option Tmp} (h : dstAt ops i = some d) : ∃ o, ops[i]? = some o ∧ o.dst = d := by
  unfold dstAt at h
  cases ho : ops[i]? with
  | none => rw [ho] at h; cases h
  | some o => rw [ho] at h; exact ⟨o, rfl, by simpa using h⟩
/-- Number i is taken first: it yields v wherever S holds. -/
theorem take {i : Nat} {d : Option Tmp} {v : Value} {fuel : Nat} {listed : Array Bool} {a : Act} {w : World}
    (hs : Region.noSelect ops = true) (hf : Region.free md ops listed i = true) (hr : (Region.ready md ops listed).contains i = true) (hd : dstAt ops i = some d) (hw : wantedAt ops i a.tmps = true)
    (hQ : ∀ c a w, Q (.panic c) (a.put d v) w → Q (.panic c) a w) (hS : S w) (hy : ∀ w, S w → runAt P ops i a.eval w = .ok (.value v) w)
    (h : wpAnyH P md ops Q S fuel (listed.setIfInBounds i true) (a.put d v) w) : wpAnyH P md ops Q S (fuel + 1) listed a w := by
  obtain ⟨o, ho, rfl⟩ := of_dst hd
  unfold wantedAt at hw
  unfold runAt at hy
  rw [ho] at hw
  simp only [ho] at hy
  exact wpAnyH_take ho hs hf hr hQ (Or.inl ⟨hw, hy⟩) hS h
/-- The one that may come up is a call of a function of the program. -/
theorem call {i : Nat} {d : Option Tmp} (f : FuncId) (args : Array Value) {fuel : Nat} {listed : Array Bool} {a : Act} {w : World}
    (hr : Region.ready md ops listed = [i]) (hd : dstAt ops i = some d) (hw : wantedAt ops i a.tmps = true) (hx : runAt P ops i a.eval w = .ok (.enter f args) w)
    (h : Calls P f args w fun e w' => ∃ v, e = .returned v ∧ S w' ∧ (S w' → wpAnyH P md ops Q S fuel (listed.setIfInBounds i true) (a.put d v) w')) : wpAnyH P md ops Q S (fuel + 1) listed a w := by
  obtain ⟨o, ho, rfl⟩ := of_dst hd
  unfold wantedAt at hw
  unfold runAt at hx
  rw [ho] at hw
  simp only [ho] at hx
  refine wpAnyH_ready hr (by simp) (AllReadyH.cons ho (fun K hK => ?_) AllReadyH.nil)
  rw [if_pos hw]
  unfold Oper.wp
  rw [hx]
  refine h.mono ?_
  rintro e w' ⟨v, rfl, h1, h2⟩
  exact hK.out _ _ h1 h2
/-- The same where the region ends in a store. -/
theorem takeX {i : Nat} {d : Option Tmp} {v : Value} {fuel : Nat} {listed : Array Bool} {a : Act} {w : World}
    (hs : Region.noSelect ops = true) (hf : Region.free md ops listed i = true) (hr : (Region.ready md ops listed).contains i = true) (hl : Held.waits md ops ops.size m i = true) (hc : Held.closedB md ops listed = true) (hd : dstAt ops i = some d) (hw : wantedAt ops i a.tmps = true)
    (hQ : ∀ c a w, Q (.panic c) (a.put d v) w → Q (.panic c) a w) (hS : S w) (hy : ∀ w, S w → runAt P ops i a.eval w = .ok (.value v) w)
    (h : Held.wpAnyX P md ops Q S m fuel (listed.setIfInBounds i true) (a.put d v) w) : Held.wpAnyX P md ops Q S m (fuel + 1) listed a w := by
  obtain ⟨o, ho, rfl⟩ := of_dst hd
  unfold wantedAt at hw
  unfold runAt at hy
  rw [ho] at hw
  simp only [ho] at hy
  exact Held.take ho hs hf hr hl hc hQ (Or.inl ⟨hw, hy⟩) hS h
theorem callX {i : Nat} {d : Option Tmp} (f : FuncId) (args : Array Value) {fuel : Nat} {listed : Array Bool} {a : Act} {w : World}
    (hr : Region.ready md ops listed = [i]) (hd : dstAt ops i = some d) (hw : wantedAt ops i a.tmps = true) (hx : runAt P ops i a.eval w = .ok (.enter f args) w)
    (h : Calls P f args w fun e w' => ∃ v, e = .returned v ∧ S w' ∧ (S w' → Held.wpAnyX P md ops Q S m fuel (listed.setIfInBounds i true) (a.put d v) w')) : Held.wpAnyX P md ops Q S m (fuel + 1) listed a w := by
  obtain ⟨o, ho, rfl⟩ := of_dst hd
  unfold wantedAt at hw
  unfold runAt at hx
  rw [ho] at hw
  simp only [ho] at hx
  refine Held.ready hr (by simp) (Held.Ready.cons ho (fun K hK => ?_) Held.Ready.nil)
  rw [if_pos hw]
  unfold Oper.wp
  rw [hx]
  refine h.mono ?_
  rintro e w' ⟨v, rfl, h1, h2⟩
  exact hK.out _ _ h1 h2
end
theorem run_of {P : Program} {ops : Array Oper} {i : Nat} {ρ : Operand → Value} {w : World} {op : Op} {r : Result Next} (ho : opAt ops i = some op) (h : ∀ o : Oper, o.op = op → (execOp ρ o).run P w = r) : runAt P ops i ρ w = r := by
  unfold opAt at ho
  unfold runAt
  cases h' : ops[i]? with
  | none => rw [h'] at ho; cases ho
  | some o =>
    rw [h'] at ho
    exact h o (by simpa using ho)
end Go.Proofs.Ytbefnophkaepmaa.Step

/- Steps in a great frame: a load of a demand, equal numbers and bits. -/
namespace Go.Proofs.Ytbefnophkaepmaa.Pack
open Go.RowKit
section
variable {ops : Array Oper} {j b : Nat} {ρ : Operand → Value} {x y : Operand} {w : World}
theorem load_vec {n0 n1 n2 n3 : Int} (ho : Step.opAt ops j = some (.load 26 x)) (hx : ρ x = .pointer (some ⟨b, 0, none⟩))
    (h : w.cell? ⟨b, 0, none⟩ = some (.int .u64 n0) ∧ w.cell? ⟨b, 1, none⟩ = some (.int .u64 n1) ∧ w.cell? ⟨b, 2, none⟩ = some (.int .u64 n2) ∧ w.cell? ⟨b, 3, none⟩ = some (.int .u64 n3)) : Step.runAt Try.prog ops j ρ w = .ok (.value (.agg #[.int .u64 n0, .int .u64 n1, .int .u64 n2, .int .u64 n3])) w := by
  obtain ⟨h0, h1, h2, h3⟩ := h
  refine Step.run_of ho fun o hop => ?_
  unfold execOp
  rw [hop]
  simp only [hx]
  go_simp
theorem eq_int {n : Int} {t : TypeId} (ho : Step.opAt ops j = some (.binOp .eql 3 x y t)) (hx : ρ x = .int .i64 n) (hy : ρ y = .int .i64 n) : Step.runAt Try.prog ops j ρ w = .ok (.value (.bool true)) w := by
  have e1 : (n == n) = true := by simp
  refine Step.run_of ho fun o hop => ?_
  unfold execOp
  rw [hop]
  simp only [hx, hy]
  go_simp
theorem eq_bool {n : Bool} {t : TypeId} (ho : Step.opAt ops j = some (.binOp .eql 4 x y t)) (hx : ρ x = .bool n) (hy : ρ y = .bool n) : Step.runAt Try.prog ops j ρ w = .ok (.value (.bool true)) w := by
  refine Step.run_of ho fun o hop => ?_
  unfold execOp
  rw [hop]
  simp only [hx, hy]
  cases n <;> go_simp
end
end Go.Proofs.Ytbefnophkaepmaa.Pack

/- A region that draws its order: a call whose callee leaves the world as it was may be taken first, as any operation that only looks. Of no program. -/
namespace Go.Proofs.Ytbefnophkaepmaa.HeldC
open Go Go.RowKit

section
variable {P : Program} {ops : Array Oper} {Q : Exit → Act → World → Prop} {md : Region.Mode} {S : World → Prop}

/-- In every world that meets S the operation is a call that answers v and leaves the world as it was. -/
def Answers (P : Program) (ops : Array Oper) (S : World → Prop) (o : Oper) (v : Value) (a : Act) : Prop :=
  Region.wanted o (yielded ops a.tmps) = true ∧ ∃ f args, ∀ w, S w → (execOp a.eval o).run P w = .ok (.enter f args) w ∧ Calls P f args w fun e w' => e = .returned v ∧ w' = w
theorem Answers.same {o : Oper} {v : Value} {a a' : Act} (h : Answers P ops S o v a) (he : execOp a'.eval o = execOp a.eval o)
    (hw : Region.wanted o (yielded ops a'.tmps) = Region.wanted o (yielded ops a.tmps)) : Answers P ops S o v a' := by
  unfold Answers at *
  rw [he, hw]
  exact h
theorem Answers.goes {i : Nat} {o : Oper} {v : Value} {a : Act} (hi : ops[i]? = some o) (h : Answers P ops S o v a) {K : Act → World → Prop} {w : World} (hS : S w) (hk : K (a.put o.dst v) w) : wpOp P ops Q i K a w := by
  obtain ⟨hw, f, args, hc⟩ := h
  obtain ⟨h1, h2⟩ := hc w hS
  unfold Go.wpOp
  simp only [hi, hw, if_true, Oper.wp, h1, Oper.upon]
  refine .inl (h2.mono ?_)
  rintro e w' ⟨rfl, rfl⟩
  exact hk
theorem beside {j : Nat} {oi oj : Oper} {v : Value} (hj : ops[j]? = some oj) (hap : oi.apart ops oj = true) (hsi : ∀ cs b, oi.op ≠ .select cs b) (hsj : ∀ cs b, oj.op ≠ .select cs b)
    (hQ : ∀ c a w, Q (.panic c) (a.put oi.dst v) w → Q (.panic c) a w) {K : Act → World → Prop} {a : Act} {w : World} (hy : Answers P ops S oi v a) (h : wpOp P ops Q j K (a.put oi.dst v) w) :
    wpOp P ops Q j (fun a' w' => Answers P ops S oi v a' ∧ K (a'.put oi.dst v) w') a w := by
  obtain ⟨h1, h2, h3⟩ := Oper.apart_spec hap
  have keep : ∀ (a : Act), Answers P ops S oi v a → ∀ u, Answers P ops S oi v (a.put oj.dst u) := fun a hy u => hy.same (execOp_put oi hsi a oj.dst u h3) (wanted_put oi a oj.dst u h3)
  have keepD : ∀ d, Answers P ops S oi v { a with defers := d :: a.defers } := fun d => hy.same rfl rfl
  unfold wpOp at *
  simp only [hj] at *
  rw [wanted_put oj a oi.dst v h1] at h
  split
  · rename_i hw
    simp only [hw, if_true] at h
    rcases h with h | ⟨hasks, hlets⟩
    · refine .inl ?_
      unfold Oper.wp at *
      rw [execOp_put oj hsj a oi.dst v h1] at h
      generalize (execOp a.eval oj).run P w = r at *
      cases r with
      | ok n w' =>
        cases n with
        | value u =>
          simp only [Oper.upon] at h ⊢
          exact ⟨keep a hy u, by rw [← Act.put_comm a v u h2]; exact h⟩
        | skip =>
          simp only [Oper.upon] at h ⊢
          exact ⟨keep a hy _, by rw [← Act.put_comm a v undef h2]; exact h⟩
        | defer d =>
          simp only [Oper.upon] at h ⊢
          refine ⟨keep _ (keepD d) _, ?_⟩
          rw [← Act.put_comm _ v undef h2, ← Act.put_defers]
          exact h
        | enter f args =>
          simp only [Oper.upon] at h ⊢
          refine Calls.mono h fun e w'' he => ?_
          cases e with
          | returned u => exact ⟨keep a hy u, by rw [← Act.put_comm a v u h2]; exact he⟩
          | panicked c => exact hQ _ _ _ he
          | outgrown => exact he
        | row row args =>
          simp only [Oper.upon] at h ⊢
          exact Rows.mono h fun u w'' he => ⟨keep a hy u, by rw [← Act.put_comm a v u h2]; exact he⟩
        | _ =>
          simp only [Oper.upon] at h ⊢
      | halt x w' =>
        cases x with
        | panic u =>
          simp only [Oper.upon] at h ⊢
          exact hQ _ _ _ h
        | _ =>
          simp only [Oper.upon] at h ⊢
    · exact .inr ⟨by unfold Oper.asks at *; rw [execOp_put oj hsj a oi.dst v h1] at hasks; exact hasks, hlets⟩
  · rename_i hw
    simp only [hw] at h
    exact ⟨keep a hy _, by rw [← Act.put_comm a v undef h2]; exact h⟩

theorem first {i : Nat} {oi : Oper} {v : Value} (hi : ops[i]? = some oi) (hsel : ∀ (j : Nat) (o : Oper) cs b, ops[j]? = some o → o.op ≠ .select cs b)
    (hQ : ∀ c a w, Q (.panic c) (a.put oi.dst v) w → Q (.panic c) a w) :
    ∀ (fuel : Nat) (listed : Array Bool) (a : Act) (w : World),
      (∀ j oj, ops[j]? = some oj → j ≠ i → listed.getD j true = false → (∀ e ∈ oj.after, Region.binds md e = true → e.on ≠ i) → oi.apart ops oj = true) →
      i ∈ Region.ready md ops listed → Answers P ops S oi v a → S w →
      wpAnyH P md ops Q S fuel (listed.setIfInBounds i true) (a.put oi.dst v) w → wpAnyH P md ops Q S (fuel + 1) listed a w := by
  intro fuel
  induction fuel with
  | zero =>
    intro listed a w _ hr hy hS H
    refine ⟨fun h => (by rw [h] at hr; cases hr), fun j hj => ?_⟩
    by_cases hji : j = i
    · subst hji
      exact hy.goes hi hS ⟨hS, H⟩
    · have h1 := ready_mono hj hji
      rw [H.1] at h1
      cases h1
  | succ fuel ih =>
    intro listed a w hfree hr hy hS H
    refine ⟨fun h => (by rw [h] at hr; cases hr), fun j hj => ?_⟩
    by_cases hji : j = i
    · subst hji
      exact hy.goes hi hS ⟨hS, H⟩
    · have h1 := H.2 j (ready_mono hj hji)
      obtain ⟨hjun, oj, hoj, hall⟩ := mem_ready.1 hj
      have hnot : ∀ e ∈ oj.after, Region.binds md e = true → e.on ≠ i := fun e he hb heq => by
        have q1 := hall e he hb
        have q0 := (mem_ready.1 hr).1
        rw [heq] at q1
        rcases Nat.lt_or_ge i listed.size with h' | h'
        · simp [h'] at q0 q1
          rw [q0] at q1
          cases q1
        · simp [Array.getElem?_eq_none h'] at q1
      have h2 := beside hoj (hfree j oj hoj hji hjun hnot) (fun cs b => hsel i oi cs b hi) (fun cs b => hsel j oj cs b hoj) hQ hy h1
      have hfree' : ∀ k ok, ops[k]? = some ok → k ≠ i → (listed.setIfInBounds j true).getD k true = false → (∀ e ∈ ok.after, Region.binds md e = true → e.on ≠ i) → oi.apart ops ok = true := fun k ok hk hki hun hno => by
        refine hfree k ok hk hki ?_ hno
        by_cases hjk : j = k
        · subst hjk
          exact hjun
        · rw [getD_set_ne true hjk] at hun
          exact hun
      refine wpOp_mono (fun a' w' h3 => ⟨h3.2.1, ih (listed.setIfInBounds j true) a' w' hfree' (ready_mono hr (Ne.symm hji)) h3.1 h3.2.1 ?_⟩) h2
      rw [Array.setIfInBounds_comm _ _ hji]
      exact h3.2.2
/-- A call that only looks, taken first. -/
theorem take {i : Nat} {oi : Oper} {v : Value} {fuel : Nat} {listed : Array Bool} {a : Act} {w : World} (hi : ops[i]? = some oi)
    (hs : Region.noSelect ops = true) (hf : Region.free md ops listed i = true) (hr : (Region.ready md ops listed).contains i = true)
    (hQ : ∀ c a w, Q (.panic c) (a.put oi.dst v) w → Q (.panic c) a w) (hy : Answers P ops S oi v a) (hS : S w)
    (h : wpAnyH P md ops Q S fuel (listed.setIfInBounds i true) (a.put oi.dst v) w) : wpAnyH P md ops Q S (fuel + 1) listed a w :=
  first hi (Region.noSelect_spec hs) hQ fuel listed a w (Region.free_spec hi hf) (by simpa using hr) hy hS h
end
end Go.Proofs.Ytbefnophkaepmaa.HeldC

/- A region that draws, operation by operation, its operations' values given outright: calls that only look are taken first; of several that may come up each is gone through. Of no program. -/
namespace Go.Proofs.Ytbefnophkaepmaa.Step
open Go Go.RowKit

section
variable {P : Program} {ops : Array Oper} {Q : Exit → Act → World → Prop} {md : Region.Mode} {S : World → Prop}
/-- A call that only looks, taken first. -/
theorem look {i : Nat} {d : Option Tmp} {v : Value} (f : FuncId) (args : Array Value) {fuel : Nat} {listed : Array Bool} {a : Act} {w : World}
    (hs : Region.noSelect ops = true) (hf : Region.free md ops listed i = true) (hr : (Region.ready md ops listed).contains i = true) (hd : dstAt ops i = some d) (hw : wantedAt ops i a.tmps = true)
    (hQ : ∀ c a w, Q (.panic c) (a.put d v) w → Q (.panic c) a w) (hS : S w) (hx : ∀ w, S w → runAt P ops i a.eval w = .ok (.enter f args) w) (hc : ∀ w, S w → Calls P f args w fun e w' => e = .returned v ∧ w' = w)
    (h : wpAnyH P md ops Q S fuel (listed.setIfInBounds i true) (a.put d v) w) : wpAnyH P md ops Q S (fuel + 1) listed a w := by
  obtain ⟨o, ho, rfl⟩ := of_dst hd
  unfold wantedAt at hw
  unfold runAt at hx
  rw [ho] at hw
  simp only [ho] at hx
  exact HeldC.take ho hs hf hr hQ ⟨hw, f, args, fun w hSw => ⟨hx w hSw, hc w hSw⟩⟩ hS h
/-- Number i goes from w to w'. -/
def Does (P : Program) (md : Region.Mode) (ops : Array Oper) (Q : Exit → Act → World → Prop) (S : World → Prop) (fuel : Nat) (listed : Array Bool) (a : Act) (w : World) (i : Nat) : Prop :=
  ∃ (d : Option Tmp) (v : Value) (w' : World) (n : Next), dstAt ops i = some d ∧ wantedAt ops i a.tmps = true ∧ runAt P ops i a.eval w = .ok n w' ∧ (n = .value v ∨ (n = .skip ∧ v = undef)) ∧ S w' ∧
    (S w' → wpAnyH P md ops Q S fuel (listed.setIfInBounds i true) (a.put d v) w')
theorem Does.goes {fuel : Nat} {listed : Array Bool} {a : Act} {w : World} {i : Nat} (h : Does P md ops Q S fuel listed a w i) :
    ∃ o, ops[i]? = some o ∧ ∀ K' : Act → World → Prop, Shut (∀ a w, S w → (S w → wpAnyH P md ops Q S fuel (listed.setIfInBounds i true) a w) → K' a w) → if Region.wanted o (yielded ops a.tmps) = true then Oper.wp P o a w K' Q else K' (a.put o.dst undef) w := by
  obtain ⟨d, v, w', n, hd, hw, hx, hn, hS, hk⟩ := h
  obtain ⟨o, ho, rfl⟩ := of_dst hd
  unfold wantedAt at hw
  unfold runAt at hx
  rw [ho] at hw
  simp only [ho] at hx
  refine ⟨o, ho, fun K' hK => ?_⟩
  rw [if_pos hw]
  unfold Oper.wp
  rw [hx]
  rcases hn with rfl | ⟨rfl, rfl⟩
  · exact hK.out _ _ hS hk
  · exact hK.out _ _ hS hk
theorem one {i : Nat} {fuel : Nat} {listed : Array Bool} {a : Act} {w : World} (hr : Region.ready md ops listed = [i]) (h : Does P md ops Q S fuel listed a w i) : wpAnyH P md ops Q S (fuel + 1) listed a w := by
  obtain ⟨o, ho, hK⟩ := h.goes
  exact wpAnyH_ready hr (by simp) (AllReadyH.cons ho hK AllReadyH.nil)
theorem two {i j : Nat} {fuel : Nat} {listed : Array Bool} {a : Act} {w : World} (hr : Region.ready md ops listed = [i, j]) (h : Does P md ops Q S fuel listed a w i) (h2 : Does P md ops Q S fuel listed a w j) : wpAnyH P md ops Q S (fuel + 1) listed a w := by
  obtain ⟨o, ho, hK⟩ := h.goes
  obtain ⟨o2, ho2, hK2⟩ := h2.goes
  exact wpAnyH_ready hr (by simp) (AllReadyH.cons ho hK (AllReadyH.cons ho2 hK2 AllReadyH.nil))
end
end Go.Proofs.Ytbefnophkaepmaa.Step

/- What some operations yield, where their operands are known: of no function of the program. -/
namespace Go.Proofs.Ytbefnophkaepmaa.Job
open Go.RowKit

section
variable {ops : Array Oper} {j : Nat} {ρ : Operand → Value} {x y : Operand} {w : World} {b i : Nat}
theorem rem_run (n k m : Nat) {t : TypeId} (hk : 0 < k) (hn : n < 9223372036854775808) (h : n % k = m) (ho : Step.opAt ops j = some (.binOp .rem 3 x y t)) (hx : ρ x = .int .i64 n) (hy : ρ y = .int .i64 k) : Step.runAt Try.prog ops j ρ w = .ok (.value (.int .i64 m)) w := by
  have hz : (k : Int) ≠ 0 := by omega
  have hz' : ((k : Int) == 0) = false := by simpa using hz
  have hk0 : ¬ k = 0 := by omega
  have ht : (n : Int).tmod (k : Int) = (m : Int) := by rw [Int.tmod_eq_emod_of_nonneg (by omega)]; omega
  have hm : m ≤ n := by rw [← h]; exact Nat.mod_le _ _
  have hw : IntKind.i64.wrap (m : Int) = (m : Int) := by rw [IntKind.wrap_i64]; omega
  refine Step.run_of ho fun o hop => ?_
  unfold execOp
  rw [hop]
  simp only [hx, hy]
  clear hk h hm hn
  go_simp
theorem add_run (n k m : Nat) {t : TypeId} (h : n + k = m) (hm : m < 9223372036854775808) (ho : Step.opAt ops j = some (.binOp .add 3 x y t)) (hx : ρ x = .int .i64 n) (hy : ρ y = .int .i64 k) : Step.runAt Try.prog ops j ρ w = .ok (.value (.int .i64 m)) w := by
  have ht : (n : Int) + (k : Int) = (m : Int) := by omega
  have hw : IntKind.i64.wrap (m : Int) = (m : Int) := by rw [IntKind.wrap_i64]; omega
  refine Step.run_of ho fun o hop => ?_
  unfold execOp
  rw [hop]
  simp only [hx, hy]
  clear h hm
  go_simp
theorem eql_run (n k : Nat) (r : Bool) {t : TypeId} (h : decide (n = k) = r) (ho : Step.opAt ops j = some (.binOp .eql 3 x y t)) (hx : ρ x = .int .i64 n) (hy : ρ y = .int .i64 k) : Step.runAt Try.prog ops j ρ w = .ok (.value (.bool r)) w := by
  have ht : ((n : Int) == (k : Int)) = r := by
    rw [← h]
    by_cases e : n = k
    · subst e; simp
    · rw [decide_eq_false e, beq_eq_false_iff_ne]; omega
  refine Step.run_of ho fun o hop => ?_
  unfold execOp
  rw [hop]
  simp only [hx, hy]
  clear h
  go_simp
theorem load_str {s : ByteArray} (ho : Step.opAt ops j = some (.load 9 x)) (hx : ρ x = .pointer (some ⟨b, i, none⟩)) (h : w.cell? ⟨b, i, none⟩ = some (.string s)) : Step.runAt Try.prog ops j ρ w = .ok (.value (.string s)) w := by
  refine Step.run_of ho fun o hop => ?_
  unfold execOp
  rw [hop]
  simp only [hx]
  go_simp
theorem load_texts {a : Option Addr} {n c : Nat} (ho : Step.opAt ops j = some (.load 28 x)) (hx : ρ x = .pointer (some ⟨b, i, none⟩)) (h : w.cell? ⟨b, i, none⟩ = some (.slice a n c)) : Step.runAt Try.prog ops j ρ w = .ok (.value (.slice a n c)) w := by
  refine Step.run_of ho fun o hop => ?_
  unfold execOp
  rw [hop]
  simp only [hx]
  go_simp
theorem at_run (g m n c : Nat) (hm : m < n) (ts : TypeId) (e : TypeId) (hu : Try.prog.underlying ts = some (.slice e)) (sz : Nat) (hs : ∀ w, (sizeOf e).run Try.prog w = .ok sz w) (ho : Step.opAt ops j = some (.indexAddr ts x y)) (hx : ρ x = .slice (some ⟨g, 0, none⟩) n c) (hy : ρ y = .int .i64 m) :
    Step.runAt Try.prog ops j ρ w = .ok (.value (.pointer (some ⟨g, m * sz, none⟩))) w := by
  have h1 : (m : Int) < (n : Int) := by omega
  have h0 : (0 : Int) ≤ (m : Int) := by omega
  refine Step.run_of ho fun o hop => ?_
  unfold execOp
  rw [hop]
  simp only [hx, hy]
  clear hm
  go_simp
theorem store_run {c c' : Array Value} {t : TypeId} (ho : Step.opAt ops j = some (.store t x y)) (hx : ρ x = .pointer (some ⟨b, 0, none⟩)) (hy : ρ y = .agg c') (hb : w.heap[b]? = some (.cells c t)) (hi : (Try.prog.info? t).map (·.size) = some c'.size) (hs : c.size = c'.size) (h1 : c'.all (·.oneCell') = true) :
    Step.runAt Try.prog ops j ρ w = .ok .skip (w.setRow b c') := by
  have hr := Whole.run_store (P := Try.prog) w b t c c' hb hi hs h1
  refine Step.run_of ho fun o hop => ?_
  unfold execOp
  simp only [hop, Sem.run_bind, Sem.run_pure, Result.andThen_ok, hx, hy, hr]
end
end Go.Proofs.Ytbefnophkaepmaa.Job
