/- What the statements' own refV, refS and refX of chapter 11 do; of memory that was there nothing turns. -/
import Derived.Test.YtbilkeadhflibaaGreatDoorYSpecH
import Derived.Test.YtbilkeadhflibaaGreatDoorSRef5
namespace Go.Proofs.YtbilkeadhflibaaGreatDoor.Sel
open Go.RowKit Go.Proofs.YtbilkeadhflibaaGreatDoor.Texts Go.Proofs.YtbilkeadhflibaaGreatDoor.Word Go.Proofs.YtbilkeadhflibaaGreatDoor.Forms Go.Proofs.YtbilkeadhflibaaGreatDoor.Boxes Go.Proofs.YtbilkeadhflibaaGreatDoor.Label
set_option maxHeartbeats 4000000 in
set_option maxRecDepth 100000 in
theorem refS11_own (v : Value) (ls : List Tm) (w0 w : World) (hv0 : TRow w0 v ls) (hb0 : Below w0.heap.size w0 w) (hl : ls.length ≤ 1048576) :
    Calls Tryz.prog 30 #[v] w fun e w' => (∃ u xs, e = .returned u ∧ w'.ownsRow w.heap.size 108 3 u xs.length (tvals xs) ∧ xs.map (·.1) = ls ∧ ∀ x ∈ xs, SRow w0 x.2 x.1.2.2) ∧ Below w.heap.size w w' := by
  obtain ⟨i0, hi, hz0, hz1, hz2⟩ := info_parts infoT5
  obtain ⟨a, cap, rfl, hcap, hm⟩ := hv0.slice
  have HV := Lib.hid hv0
  have HB0 := Lib.hid hb0
  clear hv0 hb0
  go_enter Tryz.func30, Tryz.ntmps30
  go_wp2_with fail
  go_loopw [3, 4] (fun t i wr => ∃ (k : Nat) (xs : List (Tm × Value)), k ≤ ls.length ∧ i = .int .i64 k ∧ xs.length = k ∧ xs.map (·.1) = ls.take k ∧ wr.ownsRow w.heap.size 108 3 t xs.length (tvals xs) ∧ (∀ x ∈ xs, SRow w0 x.2 x.1.2.2) ∧ Below w.heap.size w wr) (fun _ i _ => ls.length - (intOf i).toNat)
  case atStart => exact ⟨0, [], Nat.zero_le _, rfl, rfl, rfl, World.ownsRow_nil _ _ _ _, fun x hx => by simp at hx, Below.refl _ _⟩
  case round =>
    obtain ⟨k, xs, hk, rfl, hxl, hxm, hown, hin, hb⟩ := hrel
    have HXL := Lib.hid hxl
    have HXM := Lib.hid hxm
    have HO := Lib.hid hown
    have HIn := Lib.hid hin
    clear hxl hxm hown hin
    by_cases hlt : k < ls.length
    · have hltz : (k : Int) < (ls.length : Int) := by omega
      have hk0 : (0 : Int) ≤ (k : Int) := by omega
      obtain ⟨g, o, rfl, hg, hcell⟩ := HV.out.cells hlt
      obtain ⟨t, ht⟩ : ∃ t, ls[k]? = some t := ⟨_, List.getElem?_eq_getElem hlt⟩
      obtain ⟨c0, c1, s, c2, hs⟩ := hcell k t ht
      obtain ⟨sa, sc, rfl, _, _⟩ := hs.slice
      have HS := Lib.hid hs
      have HT := Lib.hid ht
      obtain ⟨tk, tn, tv⟩ := t
      have HK : Hid (∀ W, Below w.heap.size w W → W.cell? ⟨g, o + k * 3, none⟩ = some (.string tk) ∧ W.cell? ⟨g, o + k * 3 + 1, none⟩ = some (.bool tn) ∧ W.cell? ⟨g, o + k * 3 + 2, none⟩ = some (.slice sa tv.length sc)) := Lib.hid fun W h' => have h := HB0.out.trans (h'.mono HB0.out.size); ⟨(h.cell (p := ⟨g, o + k * 3, none⟩) hg).trans c0, (h.cell (p := ⟨g, o + k * 3 + 1, none⟩) hg).trans c1, (h.cell (p := ⟨g, o + k * 3 + 2, none⟩) hg).trans c2⟩
      have HLz : Hid (xs.length + 1 ≤ maxLen ∧ (xs.length + 1) * 48 ≤ 140737488355328 ∧ w.heap.size ≤ wr.heap.size + 1) := Lib.hid (by have := HXL.out; have := hb.size; unfold maxLen; omega)
      have HO2 : Hid (∀ x, (wr.drew.alloc x).ownsRow w.heap.size 108 3 u3 xs.length (tvals xs)) := Lib.hid fun x => World.ownsRow.alloc (w := wr.drew) HO.out x
      have hb2 : Below w.heap.size w wr.drew := hb.drew
      have hb3 : Below w.heap.size w (World.alloc wr.drew (.cells #[.string tk, .bool tn, .slice sa tv.length sc] 108)) := hb2.alloc hb2.size _
      clear ht hs hcell c0 c1 c2
      go_wp2_with fail
      go_region_held3 (fun x => x.cell? ⟨g, o + k * 3, none⟩ = some (.string tk) ∧ x.cell? ⟨g, o + k * 3 + 1, none⟩ = some (.bool tn) ∧ x.cell? ⟨g, o + k * 3 + 2, none⟩ = some (.slice sa tv.length sc))
        (first | exact HK.out _ hb2 | exact HK.out _ hb3 | exact HK.out _ b5)
        (first | (refine step_own _ rfl _ _ 31 rfl w.heap.size 108 i0 (.agg #[.string ByteArray.empty, .bool false, .slice none 0 0]) 3 48 Tryz.underlying31 hi hz0 hz1 hz2 rfl (by decide) u3 _ _ rfl (HO2.out _) ⟨wr.heap.size, 0, none⟩ 1 1 [.string tk, .bool tn, .slice sa tv.length sc] rfl rfl (new3 wr.drew _ _ _ _) (one3 _ _ _ _ _) HLz.out.1 HLz.out.2.1 (by show _ ≤ (World.alloc wr _).heap.size; rw [size_alloc]; exact HLz.out.2.2) ?_; intro v5 w5 hown5 hgr5; have b5 : Below w.heap.size w w5 := hb3.grown hgr5 hb3.size (fun k hk => (HO.out.lt k hk).1)))
      have hown4 : w5.ownsRow w.heap.size 108 3 v5 (xs ++ [((tk, tn, tv), Value.slice sa tv.length sc)]).length (tvals (xs ++ [((tk, tn, tv), Value.slice sa tv.length sc)])) := by rw [tvals_snoc, List.length_append]; exact hown5
      clear hown5 hgr5
      go_wp2
      go_roundw
      case rel =>
        refine ⟨k + 1, xs ++ [((tk, tn, tv), .slice sa tv.length sc)], by omega, by go_num, by rw [List.length_append, HXL.out]; rfl, ?_, hown4, ?_, b5⟩
        · rw [List.map_append, HXM.out, List.take_add_one, HT.out]; rfl
        · intro x hx
          rcases List.mem_append.1 hx with hx | hx
          · exact HIn.out x hx
          · rw [List.mem_singleton.1 hx]; exact HS.out
      case measure => simp [intOf]; omega
    · obtain rfl : k = ls.length := by omega
      have HX : Hid (xs.map (·.1) = ls) := Lib.hid (by rw [HXM.out, List.take_length])
      go_wp2
      go_ret
      exact ⟨⟨_, xs, rfl, HO.out, HX.out, HIn.out⟩, hb⟩
theorem own_set {w : World} {base : Nat} {e : TypeId} {size : Nat} {v : Value} {n : Nat} {xs : List Value} (h : w.ownsRow base e size v n xs) {T : Nat} (hT : T < base) (cs : Array Value) : (w.setRow T cs).ownsRow base e size v n xs := by
  refine ⟨h.1, h.2.imp id ?_⟩
  rintro ⟨g, cap, cur, h1, hb, hg, r⟩
  exact ⟨g, cap, cur, h1, hb, (setRow_other _ _ _ _ (by omega)).trans hg, r⟩
theorem refS11_set (v : Value) (ls : List Tm) (w0 w : World) (hv0 : TRow w0 v ls) (hb0 : Below w0.heap.size w0 w) (hl : ls.length ≤ 1048576) :
    Calls Tryz.prog 30 #[v] w fun e w' => (∃ u, e = .returned u ∧ ∀ (T : Nat) (cs : Array Value), w0.heap.size ≤ T → T < w.heap.size → TRow (w'.setRow T cs) u ls) ∧ Below w.heap.size w w' := by
  refine (refS11_own v ls w0 w hv0 hb0 hl).mono ?_
  rintro e w' ⟨⟨u, xs, rfl, ho, rfl, hx⟩, hb⟩
  refine ⟨⟨u, rfl, fun T cs h1 h2 => own_trow (own_set ho h2 cs) fun x hxm => (hx x hxm).below ?_⟩, hb⟩
  exact Whole.row_below (hb0.trans (hb.mono hb0.size)) h1 cs
end Go.Proofs.YtbilkeadhflibaaGreatDoor.Sel
namespace Go.Proofs.YtbilkeadhflibaaGreatDoor.Job
open Go.RowKit Go.Proofs.YtbilkeadhflibaaGreatDoor.Wire Go.Proofs.YtbilkeadhflibaaGreatDoor.Vec Go.Proofs.YtbilkeadhflibaaGreatDoor.Sel Go.Proofs.YtbilkeadhflibaaGreatDoor.Texts

section
variable {ops : Array Oper} {j : Nat} {ρ : Operand → Value} {x : Operand} {w : World} {b i : Nat}
theorem load_termsS {a : Option Addr} {n c : Nat} (ho : Step.opAt ops j = some (.load 25 x)) (hx : ρ x = .pointer (some ⟨b, i, none⟩)) (h : w.cell? ⟨b, i, none⟩ = some (.slice a n c)) : Step.runAt Tryz.prog ops j ρ w = .ok (.value (.slice a n c)) w := by
  refine Step.run_of ho fun o hop => ?_
  unfold execOp
  rw [hop]
  simp only [hx]
  go_simp
theorem load_vecS {n0 n1 n2 n3 : Int} (ho : Step.opAt ops j = some (.load 24 x)) (hx : ρ x = .pointer (some ⟨b, 1, none⟩))
    (h : w.cell? ⟨b, 1, none⟩ = some (.int .u64 n0) ∧ w.cell? ⟨b, 2, none⟩ = some (.int .u64 n1) ∧ w.cell? ⟨b, 3, none⟩ = some (.int .u64 n2) ∧ w.cell? ⟨b, 4, none⟩ = some (.int .u64 n3)) : Step.runAt Tryz.prog ops j ρ w = .ok (.value (.agg #[.int .u64 n0, .int .u64 n1, .int .u64 n2, .int .u64 n3])) w := by
  obtain ⟨h0, h1, h2, h3⟩ := h
  refine Step.run_of ho fun o hop => ?_
  unfold execOp
  rw [hop]
  simp only [hx]
  go_simp
end
set_option maxHeartbeats 1000000 in
set_option maxRecDepth 100000 in
theorem refV_any (A0 A1 A2 A3 : Int) (w : World) : Calls Tryz.prog 17 #[.agg #[.int .u64 A0, .int .u64 A1, .int .u64 A2, .int .u64 A3]] w fun e w' => e = .returned (.agg #[.int .u64 A0, .int .u64 A1, .int .u64 A2, .int .u64 A3]) ∧ Below w.heap.size w w' := by
  go_enter Tryz.func17, Tryz.ntmps17
  go_upto_region 1 with fail
  have hx := heap_alloc_new w (.cells #[.int .u64 A0, .int .u64 A1, .int .u64 A2, .int .u64 A3] 24)
  have b1 := grew w (.cells #[.int .u64 A0, .int .u64 A1, .int .u64 A2, .int .u64 A3] 24)
  have hz : (w.alloc (.cells #[.int .u64 A0, .int .u64 A1, .int .u64 A2, .int .u64 A3] 24)).heap.size = w.heap.size + 1 := World.size_alloc ..
  generalize w.alloc _ = v1 at hx b1 hz ⊢
  have hx2 := heap_alloc_new v1 (boxR4 0 0 0 0)
  have b3 := grew v1 (boxR4 0 0 0 0)
  unfold boxR4 at hx2 b3
  rw [hz] at hx2
  generalize v1.alloc _ = v0 at hx2 b3 ⊢
  have hx1 : v0.heap[w.heap.size]? = some (.cells #[.int .u64 A0, .int .u64 A1, .int .u64 A2, .int .u64 A3] 24) := (b3.block _ (by omega)).trans hx
  have b2 := grows b1 b3
  have HB := Lib.hid b2
  clear hx b1 b3 hz b2
  have c0 := cell_at hx1 (i := 0) rfl
  have c1 := cell_at hx1 (i := 1) rfl
  have c2 := cell_at hx1 (i := 2) rfl
  have c3 := cell_at hx1 (i := 3) rfl
  have d0 := cell_at hx2 (i := 0) rfl
  have d1 := cell_at hx2 (i := 1) rfl
  have d2 := cell_at hx2 (i := 2) rfl
  have d3 := cell_at hx2 (i := 3) rfl
  have z0 := frozen_at hx2 (i := 0)
  have z1 := frozen_at hx2 (i := 1)
  have z2 := frozen_at hx2 (i := 2)
  have z3 := frozen_at hx2 (i := 3)
  clear hx1 hx2
  go_wp2
  refine bodyPost_ret (v := .agg #[.int .u64 A0, .int .u64 A1, .int .u64 A2, .int .u64 A3]) (by simp [results, Tryz.results17, go_sem, d0, d1, d2, d3]) rfl ?_
  have h0 : Below w.heap.size w (v0.setCell ⟨w.heap.size + 1, 0, none⟩ (.int .u64 A0)) := HB.out.setCell (p := ⟨w.heap.size + 1, 0, none⟩) (by simp) _
  have h1 := h0.setCell (p := ⟨w.heap.size + 1, 1, none⟩) (by simp) (.int .u64 A1)
  have h2 := h1.setCell (p := ⟨w.heap.size + 1, 2, none⟩) (by simp) (.int .u64 A2)
  have h3 := h2.setCell (p := ⟨w.heap.size + 1, 3, none⟩) (by simp) (.int .u64 A3)
  exact ⟨rfl, h3⟩
set_option maxHeartbeats 4000000 in
set_option maxRecDepth 100000 in
theorem refX9 (p : ByteArray) (A0 A1 A2 A3 n m k : Int) (sa : Option Addr) (sn sc : Nat) (ls : List Tm) (w : World)
    (HV : Hid (∀ W, Calls Tryz.prog 17 #[.agg #[.int .u64 A0, .int .u64 A1, .int .u64 A2, .int .u64 A3]] W fun e w' => e = .returned (.agg #[.int .u64 A0, .int .u64 A1, .int .u64 A2, .int .u64 A3]) ∧ Below W.heap.size W w'))
    (HS : Hid (∀ W, Below w.heap.size w W → Calls Tryz.prog 30 #[.slice sa sn sc] W fun e w' => (∃ u, e = .returned u ∧ ∀ (T : Nat) (cs : Array Value), w.heap.size ≤ T → T < W.heap.size → TRow (w'.setRow T cs) u ls) ∧ Below W.heap.size W w')) :
    Calls Tryz.prog 10 #[val9 p A0 A1 A2 A3 n m k (.slice sa sn sc)] w fun e w' => (∃ u, e = .returned (val9 p A0 A1 A2 A3 n m k u) ∧ TRow w' u ls) ∧ Below w.heap.size w w' := by
  unfold val9
  go_enter Tryz.func10, Tryz.ntmps10
  go_upto_region 1 with fail
  have hx := heap_alloc_new w (box9 p A0 A1 A2 A3 n m k (.slice sa sn sc))
  have b1 := grew w (box9 p A0 A1 A2 A3 n m k (.slice sa sn sc))
  have hz : (w.alloc (box9 p A0 A1 A2 A3 n m k (.slice sa sn sc))).heap.size = w.heap.size + 1 := World.size_alloc ..
  unfold box9 at hx b1 hz
  generalize w.alloc _ = v1 at hx b1 hz ⊢
  have hx2 := heap_alloc_new v1 zeroR
  have b2 := grew v1 zeroR
  unfold zeroR box9R at hx2 b2
  generalize v1.alloc _ = v0 at hx2 b2 ⊢
  have HB := Lib.hid (grows b1 b2)
  have hTlt : w.heap.size < v1.heap.size := (Array.getElem?_eq_some_iff.1 hx).1
  have hx1 : v0.heap[w.heap.size]? = some (box9 p A0 A1 A2 A3 n m k (.slice sa sn sc)) := (b2.block _ hTlt).trans hx
  have HTl : Hid (w.heap.size ≤ v1.heap.size) := Lib.hid (by omega)
  have HL : Hid (w.heap.size < v1.heap.size) := Lib.hid hTlt
  have HT2 : Hid (v1.heap.size ≤ v0.heap.size) := Lib.hid b2.size
  have HT2l : Hid (v1.heap.size < v0.heap.size) := Lib.hid (Array.getElem?_eq_some_iff.1 hx2).1
  obtain ⟨c, _⟩ := cells9 hx1
  have HCl := Lib.hid c
  have HX2 := Lib.hid hx2
  clear b1 b2 hx hx1 hx2 c hTlt
  generalize v1.heap.size = T2 at HTl HL HT2 HT2l HX2 hz ⊢
  obtain ⟨T, hTe⟩ : ∃ T, T = w.heap.size := ⟨_, rfl⟩
  rw [← hTe] at HL HTl HCl HS HB hz ⊢
  have HTe := Lib.hid hTe
  clear hTe
  rw [← hz]
  clear hz
  have q0 : Below v0.heap.size v0 v0.drew := (Below.refl _ _).drew
  refine wp_region_held_drew (S := fun z => Below T2 v0 z) (by kernel_rfl) (q0.mono HT2.out) (fun hHeld => ?_)
  (refine Step.take (i := 0) (d := some 3) (v := .pointer (some ⟨T, 0, none⟩)) (by kernel_rfl) (by kernel_rfl) (by kernel_rfl) (by kernel_rfl) (by kernel_rfl) (fun _ _ _ h => h) hHeld (fun z hSw => by kernel_rfl) ?_)
  (refine Step.take (i := 1) (d := some 4) (v := .string p) (by kernel_rfl) (by kernel_rfl) (by kernel_rfl) (by kernel_rfl) (by kernel_rfl) (fun _ _ _ h => h) hHeld (fun z hSw => load_str (x := .tmp 3) (b := T) (i := 0) (by kernel_rfl) (by kernel_rfl) ((hSw.cell (p := ⟨T, 0, none⟩) HL.out).trans HCl.out.1)) ?_)
  (refine Step.take (i := 2) (d := some 5) (v := .pointer (some ⟨T, 1, none⟩)) (by kernel_rfl) (by kernel_rfl) (by kernel_rfl) (by kernel_rfl) (by kernel_rfl) (fun _ _ _ h => h) hHeld (fun z hSw => by kernel_rfl) ?_)
  (refine Step.take (i := 3) (d := some 6) (v := .agg #[.int .u64 A0, .int .u64 A1, .int .u64 A2, .int .u64 A3]) (by kernel_rfl) (by kernel_rfl) (by kernel_rfl) (by kernel_rfl) (by kernel_rfl) (fun _ _ _ h => h) hHeld (fun z hSw => load_vecS (x := .tmp 5) (b := T) (by kernel_rfl) (by kernel_rfl) ⟨((hSw.cell (p := ⟨T, 1, none⟩) HL.out).trans HCl.out.2.1), ((hSw.cell (p := ⟨T, 2, none⟩) HL.out).trans HCl.out.2.2.1), ((hSw.cell (p := ⟨T, 3, none⟩) HL.out).trans HCl.out.2.2.2.1), ((hSw.cell (p := ⟨T, 4, none⟩) HL.out).trans HCl.out.2.2.2.2.1)⟩) ?_)
  (refine Step.take (i := 5) (d := some 8) (v := .pointer (some ⟨T, 5, none⟩)) (by kernel_rfl) (by kernel_rfl) (by kernel_rfl) (by kernel_rfl) (by kernel_rfl) (fun _ _ _ h => h) hHeld (fun z hSw => by kernel_rfl) ?_)
  (refine Step.take (i := 6) (d := some 9) (v := .int .i64 n) (by kernel_rfl) (by kernel_rfl) (by kernel_rfl) (by kernel_rfl) (by kernel_rfl) (fun _ _ _ h => h) hHeld (fun z hSw => load_intT (x := .tmp 8) (b := T) (i := 5) (by kernel_rfl) (by kernel_rfl) ((hSw.cell (p := ⟨T, 5, none⟩) HL.out).trans HCl.out.2.2.2.2.2.1)) ?_)
  (refine Step.take (i := 7) (d := some 10) (v := .pointer (some ⟨T, 6, none⟩)) (by kernel_rfl) (by kernel_rfl) (by kernel_rfl) (by kernel_rfl) (by kernel_rfl) (fun _ _ _ h => h) hHeld (fun z hSw => by kernel_rfl) ?_)
  (refine Step.take (i := 8) (d := some 11) (v := .int .i64 m) (by kernel_rfl) (by kernel_rfl) (by kernel_rfl) (by kernel_rfl) (by kernel_rfl) (fun _ _ _ h => h) hHeld (fun z hSw => load_intT (x := .tmp 10) (b := T) (i := 6) (by kernel_rfl) (by kernel_rfl) ((hSw.cell (p := ⟨T, 6, none⟩) HL.out).trans HCl.out.2.2.2.2.2.2.1)) ?_)
  (refine Step.take (i := 9) (d := some 12) (v := .pointer (some ⟨T, 7, none⟩)) (by kernel_rfl) (by kernel_rfl) (by kernel_rfl) (by kernel_rfl) (by kernel_rfl) (fun _ _ _ h => h) hHeld (fun z hSw => by kernel_rfl) ?_)
  (refine Step.take (i := 10) (d := some 13) (v := .int .i64 k) (by kernel_rfl) (by kernel_rfl) (by kernel_rfl) (by kernel_rfl) (by kernel_rfl) (fun _ _ _ h => h) hHeld (fun z hSw => load_intT (x := .tmp 12) (b := T) (i := 7) (by kernel_rfl) (by kernel_rfl) ((hSw.cell (p := ⟨T, 7, none⟩) HL.out).trans HCl.out.2.2.2.2.2.2.2.1)) ?_)
  (refine Step.take (i := 11) (d := some 14) (v := .pointer (some ⟨T, 8, none⟩)) (by kernel_rfl) (by kernel_rfl) (by kernel_rfl) (by kernel_rfl) (by kernel_rfl) (fun _ _ _ h => h) hHeld (fun z hSw => by kernel_rfl) ?_)
  (refine Step.take (i := 12) (d := some 15) (v := .slice sa sn sc) (by kernel_rfl) (by kernel_rfl) (by kernel_rfl) (by kernel_rfl) (by kernel_rfl) (fun _ _ _ h => h) hHeld (fun z hSw => load_termsS (x := .tmp 14) (b := T) (i := 8) (by kernel_rfl) (by kernel_rfl) ((hSw.cell (p := ⟨T, 8, none⟩) HL.out).trans HCl.out.2.2.2.2.2.2.2.2)) ?_)
  (refine Step.call (i := 4) (d := some 7) 17 #[.agg #[.int .u64 A0, .int .u64 A1, .int .u64 A2, .int .u64 A3]] (by kernel_rfl) (by kernel_rfl) (by kernel_rfl) (by kernel_rfl) ?_; clear hHeld; refine (HV.out _).mono ?_; rintro _ z4 ⟨rfl, kb⟩; have q4 := q0.trans (kb.mono q0.size); clear kb; refine ⟨_, rfl, q4.mono HT2.out, fun hHeld => ?_⟩)
  (refine Step.call (i := 13) (d := some 16) 30 #[.slice sa sn sc] (by kernel_rfl) (by kernel_rfl) (by kernel_rfl) (by kernel_rfl) ?_; clear hHeld; refine (HS.out _ (HB.out.trans (q4.mono (Nat.le_trans HTl.out HT2.out)))).mono ?_; rintro _ z13 ⟨⟨u, rfl, hu⟩, kb⟩; have q13 := q4.trans (kb.mono q4.size); have HU := Lib.hid (hu T2 #[.string p, .int .u64 A0, .int .u64 A1, .int .u64 A2, .int .u64 A3, .int .i64 n, .int .i64 m, .int .i64 k, u] HTl.out (Nat.lt_of_lt_of_le HT2l.out q4.size)); clear kb hu; refine ⟨_, rfl, q13.mono HT2.out, fun hHeld => ?_⟩)
  obtain ⟨la, lc, rfl, _, _⟩ := HU.out.slice
  (refine Step.take (i := 14) (d := some 17) (v := .agg #[.string p, .int .u64 A0, .int .u64 A1, .int .u64 A2, .int .u64 A3, .int .i64 n, .int .i64 m, .int .i64 k, .slice la ls.length lc]) (by kernel_rfl) (by kernel_rfl) (by kernel_rfl) (by kernel_rfl) (by kernel_rfl) (fun _ _ _ h => h) hHeld (fun z hSw => by kernel_rfl) ?_)
  have hr13 := (q13.block _ HT2l.out).trans HX2.out
  have g13 := Whole.row_below (q13.mono HT2.out) (g := T2) (Nat.le_refl _) #[.string p, .int .u64 A0, .int .u64 A1, .int .u64 A2, .int .u64 A3, .int .i64 n, .int .i64 m, .int .i64 k, .slice la ls.length lc]
  (refine Step.one (i := 15) (by kernel_rfl) ⟨none, undef, z13.setRow T2 #[.string p, .int .u64 A0, .int .u64 A1, .int .u64 A2, .int .u64 A3, .int .i64 n, .int .i64 m, .int .i64 k, .slice la ls.length lc], .skip, by kernel_rfl, by kernel_rfl, store_run (x := .tmp 2) (y := .tmp 17) (by kernel_rfl) (by kernel_rfl) (by kernel_rfl) hr13 (by kernel_rfl) rfl (nine_ok p A0 A1 A2 A3 n m k _ rfl), .inr ⟨rfl, rfl⟩, g13, fun hHeld => ?_⟩)
  refine wpAnyH_done (by kernel_rfl) ?_ _
  simp only [Act.put, List.setIfInBounds_toArray, List.set_cons_succ, List.set_cons_zero]
  have hr := setRow_heap _ _ _ #[.string p, .int .u64 A0, .int .u64 A1, .int .u64 A2, .int .u64 A3, .int .i64 n, .int .i64 m, .int .i64 k, .slice la ls.length lc] _ _ hr13
  have HU2 := HU
  generalize z13.setRow T2 #[.string p, .int .u64 A0, .int .u64 A1, .int .u64 A2, .int .u64 A3, .int .i64 n, .int .i64 m, .int .i64 k, .slice la ls.length lc] = z at hr g13 HU2 ⊢
  have hr2 : z.heap[T2]? = some (box9R p A0 A1 A2 A3 n m k (.slice la ls.length lc)) := hr
  obtain ⟨⟨d0, d1, d2, d3, d4, d5, d6, d7, d8⟩, _⟩ := cells9R hr2
  have hB : Below T w z := HB.out.trans (g13.mono HTl.out)
  rw [HTe.out] at hB
  have HBz := Lib.hid hB
  clear hr hr2 hB g13 HU hr13 hHeld q0 q4 q13 HX2 HCl HTl HL HT2 HT2l HB HV HS
  go_wp2
  refine bodyPost_ret (v := .agg #[.string p, .int .u64 A0, .int .u64 A1, .int .u64 A2, .int .u64 A3, .int .i64 n, .int .i64 m, .int .i64 k, .slice la ls.length lc]) (by simp [results, Tryz.results10, go_sem, d0, d1, d2, d3, d4, d5, d6, d7, d8]) rfl ?_
  exact ⟨⟨_, rfl, HU2.out⟩, HBz.out⟩
theorem refX_any (x : Jb) (u : Value) (w0 w : World) (hu : TRow w0 u (terms x)) (hb : Below w0.heap.size w0 w) (hl : (terms x).length ≤ 1048576) :
    Calls Tryz.prog 10 #[valJ x u] w fun e w' => (∃ u', e = .returned (valJ x u') ∧ TRow w' u' (terms x)) ∧ Below w.heap.size w w' := by
  obtain ⟨sa, sc, rfl, _, _⟩ := hu.slice
  exact refX9 (path x) (am (dem x) 0) (am (dem x) 1) (am (dem x) 2) (am (dem x) 3) (cou x) (pri x) (tik x) sa (terms x).length sc (terms x) w (Lib.hid fun W => refV_any _ _ _ _ W)
    (Lib.hid fun W h => (refS11_set _ (terms x) w W (hu.below hb) h hl).mono fun e w' h => h)
end Go.Proofs.YtbilkeadhflibaaGreatDoor.Job
