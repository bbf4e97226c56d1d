/- What sha.Sum answers of any text: the 32 bytes of its sum; of memory that was there nothing turns. -/
import Derived.Test.YthopegokjbibmaaDoorHMixAll
import Derived.Test.YthopegokjbibmaaDoorHEnding
import Derived.Deep.RegionLaw
import Derived.Deep.DeepCutAuto
import Derived.Laws.Strings3
namespace Go.Proofs.YthopegokjbibmaaDoor.Sha
open Go.RowKit

theorem cells8 {w : World} {b : Nat} {v0 v1 v2 v3 v4 v5 v6 v7 : Value} {t : TypeId} {fr : Nat × Nat} (h : w.heap[b]? = some (.cells #[v0, v1, v2, v3, v4, v5, v6, v7] t fr)) :
    w.cell? ⟨b, 0, none⟩ = some v0 ∧ w.cell? ⟨b, 1, none⟩ = some v1 ∧ w.cell? ⟨b, 2, none⟩ = some v2 ∧ w.cell? ⟨b, 3, none⟩ = some v3 ∧ w.cell? ⟨b, 4, none⟩ = some v4 ∧ w.cell? ⟨b, 5, none⟩ = some v5 ∧ w.cell? ⟨b, 6, none⟩ = some v6 ∧ w.cell? ⟨b, 7, none⟩ = some v7 :=
  ⟨cell_of_row _ _ 0 _ t fr h, cell_of_row _ _ 1 _ t fr h, cell_of_row _ _ 2 _ t fr h, cell_of_row _ _ 3 _ t fr h, cell_of_row _ _ 4 _ t fr h, cell_of_row _ _ 5 _ t fr h, cell_of_row _ _ 6 _ t fr h, cell_of_row _ _ 7 _ t fr h⟩
theorem frozen8 {w : World} {b : Nat} {cs : Array Value} {t : TypeId} (h : w.heap[b]? = some (.cells cs t)) : w.frozen? ⟨b, 0, none⟩ = false ∧ w.frozen? ⟨b, 1, none⟩ = false ∧ w.frozen? ⟨b, 2, none⟩ = false ∧ w.frozen? ⟨b, 3, none⟩ = false ∧ w.frozen? ⟨b, 4, none⟩ = false ∧ w.frozen? ⟨b, 5, none⟩ = false ∧ w.frozen? ⟨b, 6, none⟩ = false ∧ w.frozen? ⟨b, 7, none⟩ = false :=
  ⟨frozen_at h, frozen_at h, frozen_at h, frozen_at h, frozen_at h, frozen_at h, frozen_at h, frozen_at h⟩
def set8 (b : Nat) (v0 v1 v2 v3 v4 v5 v6 v7 : Value) (w : World) : World :=
  (((((((w.setCell ⟨b, 0, none⟩ v0).setCell ⟨b, 1, none⟩ v1).setCell ⟨b, 2, none⟩ v2).setCell ⟨b, 3, none⟩ v3).setCell ⟨b, 4, none⟩ v4).setCell ⟨b, 5, none⟩ v5).setCell ⟨b, 6, none⟩ v6).setCell ⟨b, 7, none⟩ v7
theorem set8_box {w : World} {b : Nat} {x0 x1 x2 x3 x4 x5 x6 x7 : Value} {t : TypeId} (h : w.heap[b]? = some (.cells #[x0, x1, x2, x3, x4, x5, x6, x7] t)) (v0 v1 v2 v3 v4 v5 v6 v7 : Value) :
    (set8 b v0 v1 v2 v3 v4 v5 v6 v7 w).heap[b]? = some (.cells #[v0, v1, v2, v3, v4, v5, v6, v7] t) := by
  unfold set8
  have h0 : _ = some (Obj.cells #[v0, x1, x2, x3, x4, x5, x6, x7] t) := heap_setCell_same w b 0 _ _ v0 h
  have h1 : _ = some (Obj.cells #[v0, v1, x2, x3, x4, x5, x6, x7] t) := heap_setCell_same _ b 1 _ _ v1 h0
  have h2 : _ = some (Obj.cells #[v0, v1, v2, x3, x4, x5, x6, x7] t) := heap_setCell_same _ b 2 _ _ v2 h1
  have h3 : _ = some (Obj.cells #[v0, v1, v2, v3, x4, x5, x6, x7] t) := heap_setCell_same _ b 3 _ _ v3 h2
  have h4 : _ = some (Obj.cells #[v0, v1, v2, v3, v4, x5, x6, x7] t) := heap_setCell_same _ b 4 _ _ v4 h3
  have h5 : _ = some (Obj.cells #[v0, v1, v2, v3, v4, v5, x6, x7] t) := heap_setCell_same _ b 5 _ _ v5 h4
  have h6 : _ = some (Obj.cells #[v0, v1, v2, v3, v4, v5, v6, x7] t) := heap_setCell_same _ b 6 _ _ v6 h5
  exact heap_setCell_same _ b 7 _ _ v7 h6
theorem set8_below {B b : Nat} {v0 v1 v2 v3 v4 v5 v6 v7 : Value} {w0 w : World} (h : Below B w0 w) (hb : B ≤ b) : Below B w0 (set8 b v0 v1 v2 v3 v4 v5 v6 v7 w) :=
  (((((((h.setCell hb _).setCell hb _).setCell hb _).setCell hb _).setCell hb _).setCell hb _).setCell hb _).setCell hb _
/-- Eight words in a block of one's own. -/
def Has (w : World) (S : St) (v : Value) (wx : World) : Prop := ∃ H, v = .pointer (some ⟨H, 0, none⟩) ∧ w.heap.size ≤ H ∧ wx.heap[H]? = some (.cells #[.int .u32 (S.a : Nat), .int .u32 (S.b : Nat), .int .u32 (S.c : Nat), .int .u32 (S.d : Nat), .int .u32 (S.e : Nat), .int .u32 (S.f : Nat), .int .u32 (S.g : Nat), .int .u32 (S.h : Nat)] 80) ∧ Below w.heap.size w wx
theorem list_eq (S : St) : (words S.list).toArray = #[.int .u32 (S.a : Nat), .int .u32 (S.b : Nat), .int .u32 (S.c : Nat), .int .u32 (S.d : Nat), .int .u32 (S.e : Nat), .int .u32 (S.f : Nat), .int .u32 (S.g : Nat), .int .u32 (S.h : Nat)] := rfl
set_option maxRecDepth 100000 in
theorem conv_own {w : World} {B : Nat} {v : Value} {l : List UInt8} {n : Nat} (hn : n = l.length) (h : w.ownsRow B 5 1 v n (vals l)) (hl : 0 < l.length) :
    (convert 52 9 v).run Tryd.prog w = .ok (.string (str l)) w := by
  subst hn
  rcases h.2 with ⟨rfl, h0⟩ | ⟨g, cap, cur, rfl, _⟩
  · omega
  exact conv_owns h
theorem sum_glue (l : List UInt8) (m : Nat) (hm : m = l.length - l.length % 64) :
    (comps (comps squares (l.take m) ((l.take m).length / 64)) (l.drop m ++ ending l.length) ((l.drop m ++ ending l.length).length / 64)).bytes = sumL l := by
  have h1 : (l.take m).length = m := by rw [List.length_take]; omega
  have h2 : (l.drop m ++ ending l.length).length = l.length - m + (ending l.length).length := by rw [List.length_append, List.length_drop]
  have h3 := ending_whole l.length
  have e : l ++ ending l.length = l.take m ++ (l.drop m ++ ending l.length) := by rw [← List.append_assoc, List.take_append_drop]
  unfold sumL
  rw [e, h1, h2, show (l.length + (ending l.length).length) / 64 = m / 64 + (l.length - m + (ending l.length).length) / 64 by omega, comps_go squares (l.take m) _ (m / 64) (by rw [h1]; omega)]
set_option maxHeartbeats 2000000 in
set_option maxRecDepth 100000 in
theorem sum_any (s : ByteArray) (hs : s.size ≤ 1152921504606846976) (w : World) (hR : Roots w) :
    Calls Tryd.prog 35 #[.string s] w fun e w' => e = .returned (.string (str (sumL s.data.toList))) ∧ Below w.heap.size w w' := by
  have HR := Lib.hid hR
  clear hR
  obtain ⟨m, hm⟩ : ∃ m, m = s.size - s.size % 64 := ⟨_, rfl⟩
  have hmz : (s.size : Int) - (s.size : Int) % 64 = (m : Int) := by omega
  have hms : m ≤ s.size := by omega
  have hmsz : (m : Int) ≤ (s.size : Int) := by omega
  have HM := Lib.hid hm
  clear hm
  obtain ⟨t0, fr0, hq⟩ := HR.out.1
  obtain ⟨S, hS⟩ : ∃ S, squares = S := ⟨_, rfl⟩
  have hSok : S.ok := by rw [← hS]; exact squares_ok
  rw [hS, list_eq] at hq
  have hl := (Array.getElem?_eq_some_iff.1 hq).1
  have hb0 : Below w.heap.size w (World.drew (w.alloc (.cells #[.int .u32 0, .int .u32 0, .int .u32 0, .int .u32 0, .int .u32 0, .int .u32 0, .int .u32 0, .int .u32 0] 80))) := ((Below.refl _ _).alloc (Nat.le_refl _) _).drew
  have hb0' : Below w.heap.size w (w.alloc (.cells #[.int .u32 0, .int .u32 0, .int .u32 0, .int .u32 0, .int .u32 0, .int .u32 0, .int .u32 0, .int .u32 0] 80)) := (Below.refl _ _).alloc (Nat.le_refl _) _
  have hq2 := (hb0'.block _ hl).trans hq
  obtain ⟨T, hT⟩ : ∃ T, comps S (s.extract 0 m).data.toList ((s.extract 0 m).size / 64) = T := ⟨_, rfl⟩
  have HC1 := Lib.hid (mixAll_any S hSok (s.extract 0 m) w.drew HR.out)
  have HC2 := Lib.hid (mixAll_any S hSok (s.extract 0 m) (World.drew (w.alloc (.cells #[.int .u32 0, .int .u32 0, .int .u32 0, .int .u32 0, .int .u32 0, .int .u32 0, .int .u32 0, .int .u32 0] 80))) (HR.out.below hb0))
  rw [hT, list_eq, list_eq] at HC1 HC2
  have hzw : (World.drew (w.alloc (.cells #[.int .u32 0, .int .u32 0, .int .u32 0, .int .u32 0, .int .u32 0, .int .u32 0, .int .u32 0, .int .u32 0] 80))).heap[w.heap.size]? = some (.cells #[.int .u32 0, .int .u32 0, .int .u32 0, .int .u32 0, .int .u32 0, .int .u32 0, .int .u32 0, .int .u32 0] 80) := heap_alloc_new w _
  have hltw : w.heap.size < (World.drew (w.alloc (.cells #[.int .u32 0, .int .u32 0, .int .u32 0, .int .u32 0, .int .u32 0, .int .u32 0, .int .u32 0, .int .u32 0] 80))).heap.size := by show _ < (w.alloc _).heap.size; rw [World.size_alloc]; omega
  obtain ⟨p0, p1, p2, p3, p4, p5, p6, p7⟩ := cells8 hq
  obtain ⟨r0, r1, r2, r3, r4, r5, r6, r7⟩ := cells8 hq2
  have ZW := Lib.hid hzw
  have B0 := Lib.hid hb0
  have LW := Lib.hid hltw
  have HT := Lib.hid hT
  have HSq := Lib.hid hS
  clear hq hq2 hl hb0 hb0' hzw hT hS hltw
  go_enter Tryd.func35, Tryd.ntmps35
  go_upto_region 2 with fail
  go_cut [4] (fun v wx => Has w T v wx)
  case first =>
    go_region_law (first
      | (go_simp; go_at_call 52; (with_reducible refine HC1.out.mono ?_); rintro e w2 ⟨rfl, hb2⟩)
      | (go_simp; go_at_call 52; (with_reducible refine HC2.out.mono ?_); rintro e w2 ⟨rfl, hb2⟩; have hz := (hb2.block _ LW.out).trans ZW.out; obtain ⟨z0, z1, z2, z3, z4, z5, z6, z7⟩ := cells8 hz; obtain ⟨f0, f1, f2, f3, f4, f5, f6, f7⟩ := frozen8 hz; have HZ := Lib.hid hz; clear hz))
    all_goals
      go_wp2_with fail
      go_meet
      first
        | exact ⟨w.heap.size, rfl, Nat.le_refl _, set8_box HZ.out _ _ _ _ _ _ _ _, set8_below (B0.out.trans (hb2.mono B0.out.size)) (Nat.le_refl _)⟩
        | exact ⟨w2.heap.size, rfl, hb2.size, heap_alloc_new w2 _, ((Below.refl _ w).drew.trans hb2).alloc hb2.size _⟩
  case rest =>
    obtain ⟨H, rfl, hH, hc, hbl⟩ := hcut
    clear p0 p1 p2 p3 p4 p5 p6 p7 r0 r1 r2 r3 r4 r5 r6 r7 HC1 HC2 ZW B0 LW
    have hTok : T.ok := by rw [← HT.out]; exact comps_ok hSok _ _
    have HE := Lib.hid (ending_any s.size hs wc.drew)
    obtain ⟨x, hx⟩ : ∃ x, s.extract m s.size ++ str (ending s.size) = x := ⟨_, rfl⟩
    obtain ⟨U, hU⟩ : ∃ U, comps T x.data.toList (x.size / 64) = U := ⟨_, rfl⟩
    have hadd : ∀ w, Sem.run Tryd.prog (Op.stringOp .add (s.extract m s.size) (str (ending s.size))) w = .ok (.string x) w := fun w => by
      rw [← hx]
      refine run_string_add_sum w _ _ ?_
      rw [ByteArray.size_extract, str_size, ending_len]
      unfold noughts
      omega
    have HC3 : Hid (∀ w4, Below wc.drew.heap.size wc.drew w4 → Calls Tryd.prog 52 #[.agg #[.int .u32 (T.a : Nat), .int .u32 (T.b : Nat), .int .u32 (T.c : Nat), .int .u32 (T.d : Nat), .int .u32 (T.e : Nat), .int .u32 (T.f : Nat), .int .u32 (T.g : Nat), .int .u32 (T.h : Nat)], .string x] w4 fun e w' => e = .returned (.agg #[.int .u32 (U.a : Nat), .int .u32 (U.b : Nat), .int .u32 (U.c : Nat), .int .u32 (U.d : Nat), .int .u32 (U.e : Nat), .int .u32 (U.f : Nat), .int .u32 (U.g : Nat), .int .u32 (U.h : Nat)]) ∧ Below w4.heap.size w4 w') := Lib.hid fun w4 hb => by
      have := mixAll_any T hTok x w4 ((HR.out.below hbl).below (show Below wc.heap.size wc w4 from ⟨hb.os, hb.tape, hb.output, hb.size, hb.block⟩))
      rw [hU] at this
      exact this
    have HF : Hid (U.bytes = sumL s.data.toList) := Lib.hid (by
      rw [← sum_glue s.data.toList m (by rw [size_list]; exact HM.out), ← hU, ← hx, ← HT.out, HSq.out]
      rw [extract_take, extract_drop, str_toList, str_size]
      have e1 : (str (s.data.toList.drop m) ++ str (ending s.size)).data.toList = s.data.toList.drop m ++ ending s.data.toList.length := by simp [str]
      have e2 : (str (s.data.toList.drop m) ++ str (ending s.size)).size = (s.data.toList.drop m ++ ending s.data.toList.length).length := by rw [← size_list, e1]
      rw [e1, e2])
    obtain ⟨q0, q1, q2, q3, q4, q5, q6, q7⟩ := cells8 hc
    have hHc := (Array.getElem?_eq_some_iff.1 hc).1
    have HCc := Lib.hid hc
    have LHc := Lib.hid hHc
    have HUk : Hid U.ok := Lib.hid (by rw [← hU]; exact comps_ok hTok _ _)
    clear hc hHc hx hU hTok hSok
    go_upto_region 3 with fail
    go_cut [27] (fun _ wx => wx.heap[H]? = some (.cells #[.int .u32 (U.a : Nat), .int .u32 (U.b : Nat), .int .u32 (U.c : Nat), .int .u32 (U.d : Nat), .int .u32 (U.e : Nat), .int .u32 (U.f : Nat), .int .u32 (U.g : Nat), .int .u32 (U.h : Nat)] 80) ∧ Below w.heap.size w wx)
    case first =>
      go_region_law (first
        | (go_simp; go_at_call 53; (with_reducible refine HE.out.mono ?_); rintro e w4 ⟨rfl, hb4⟩; have hz4 := (hb4.block _ LHc.out).trans HCc.out; obtain ⟨z0, z1, z2, z3, z4, z5, z6, z7⟩ := cells8 hz4; have HZ4 := Lib.hid hz4; clear hz4)
        | (go_simp; go_at_call 52; (with_reducible refine (HC3.out _ hb4).mono ?_); rintro e w5 ⟨rfl, hb5⟩; have hz5 := (hb5.block _ (Array.getElem?_eq_some_iff.1 HZ4.out).1).trans HZ4.out; obtain ⟨y0, y1, y2, y3, y4, y5, y6, y7⟩ := cells8 hz5; obtain ⟨f0, f1, f2, f3, f4, f5, f6, f7⟩ := frozen8 hz5; have HZ5 := Lib.hid hz5; clear hz5))
      all_goals
        go_wp2_with fail
        go_meet
        exact ⟨set8_box HZ5.out _ _ _ _ _ _ _ _, set8_below ((hbl.drew.trans (hb4.mono hbl.size)).trans (hb5.mono (Nat.le_trans hbl.size hb4.size))) hH⟩
    case rest =>
      obtain ⟨hc2, hbl2⟩ := hcut
      clear q0 q1 q2 q3 q4 q5 q6 q7 HE HC3 HCc LHc hadd hbl
      obtain ⟨i0, hi, hz0, hz1, hz2⟩ := info_parts info5
      obtain ⟨q0, q1, q2, q3, q4, q5, q6, q7⟩ := cells8 hc2
      have hUok : U.ok := HUk.out
      have HX : Hid (∀ (k : Nat) (w : World), k < 8 → (Instr.index 80 (.agg #[.int .u32 (U.a : Nat), .int .u32 (U.b : Nat), .int .u32 (U.c : Nat), .int .u32 (U.d : Nat), .int .u32 (U.e : Nat), .int .u32 (U.f : Nat), .int .u32 (U.g : Nat), .int .u32 (U.h : Nat)]) (.int .i64 (k : Int))).run Tryd.prog w = .ok (.int .u32 (U.list.getD k 0 : Nat)) w) := Lib.hid fun k w hk => index_word w 80 8 U.list k Tryd.underlying80 rfl hk
      have HL : Hid (∀ k, k < 8 → U.list.getD k 0 < 4294967296 ∧ U.list.take (k + 1) = U.list.take k ++ [U.list.getD k 0]) := Lib.hid (by
        obtain ⟨l0, l1, l2, l3, l4, l5, l6, l7⟩ := hUok
        intro k hk
        obtain rfl | rfl | rfl | rfl | rfl | rfl | rfl | rfl : k = 0 ∨ k = 1 ∨ k = 2 ∨ k = 3 ∨ k = 4 ∨ k = 5 ∨ k = 6 ∨ k = 7 := by omega
        all_goals exact ⟨by assumption, rfl⟩)
      clear hc2 hUok HUk
      go_wp2
      clear q0 q1 q2 q3 q4 q5 q6 q7
      go_loopw [5, 29] (fun v i wr => ∃ (k : Nat) (xs : List UInt8), k ≤ 8 ∧ i = .int .i64 k ∧ xs = (U.list.take k).flatMap four ∧ xs.length = 4 * k ∧ wr.ownsRow w.heap.size 5 1 v xs.length (vals xs) ∧ Below w.heap.size w wr) (fun _ i _ => 8 - (intOf i).toNat)
      case atStart => exact ⟨0, [], Nat.zero_le _, rfl, rfl, rfl, World.ownsRow_nil _ _ _ _, hbl2⟩
      case round =>
        obtain ⟨k, xs, hk, rfl, hxs, hlen, hown, hb⟩ := hrel
        have HXs := Lib.hid hxs
        have HLen := Lib.hid hlen
        clear hxs hlen
        by_cases hlt : k < 8
        · have hltz : (k : Int) < 8 := by omega
          obtain ⟨hlx, htk⟩ := HL.out k hlt
          have hix := fun w => HX.out k w hlt
          obtain ⟨x, hx⟩ : ∃ x, U.list.getD k 0 = x := ⟨_, rfl⟩
          simp only [hx] at hix
          rw [hx] at hlx htk
          obtain ⟨b3, h3⟩ : ∃ b : UInt8, b = (x / 16777216).toUInt8 := ⟨_, rfl⟩
          obtain ⟨b2, h2⟩ : ∃ b : UInt8, b = (x / 65536).toUInt8 := ⟨_, rfl⟩
          obtain ⟨b1, h1⟩ : ∃ b : UInt8, b = (x / 256).toUInt8 := ⟨_, rfl⟩
          obtain ⟨b0, h0⟩ : ∃ b : UInt8, b = x.toUInt8 := ⟨_, rfl⟩
          have e3 : (x : Int) / 16777216 = (b3.toNat : Int) := by rw [h3]; simp; omega
          have e2 : (x : Int) / 65536 % 256 = (b2.toNat : Int) := by rw [h2]; simp
          have e1 : (x : Int) / 256 % 256 = (b1.toNat : Int) := by rw [h1]; simp
          have e0 : (x : Int) % 256 = (b0.toNat : Int) := by rw [h0]; simp
          have HN : Hid (xs ++ [b3, b2, b1, b0] = (U.list.take (k + 1)).flatMap four) := Lib.hid (by rw [htk, List.flatMap_append, ← HXs.out, h3, h2, h1, h0]; rfl)
          have hl4 : xs.length + 4 ≤ 32 := by have := HLen.out; omega
          clear hx htk h3 h2 h1 h0
          go_wp2_with (at_builtin; refine wpList_append_own _ rfl _ _ 52 rfl w.heap.size 5 i0 (.int .u8 0) 1 1 Tryd.underlying52 hi hz0 hz1 hz2 rfl (by decide) _ _ _ rfl (hown.alloc _) ⟨wr.heap.size, 0, none⟩ 4 4 (vals [b3, b2, b1, b0]) rfl rfl (built wr _ _) (vals_one _) (by unfold maxLen; omega) (by omega) (by have := hb.size; simp; omega) ?_)
          intro v' w1 hown' hgrow _
          have hown2 : w1.ownsRow w.heap.size 5 1 v' (xs ++ [b3, b2, b1, b0]).length (vals (xs ++ [b3, b2, b1, b0])) := by rw [vals_append, List.length_append]; exact hown'
          have hb' : Below w.heap.size w w1 := (hb.alloc hb.size _).grown hgrow (by have := hb.size; simp; omega) (fun k hk => (hown.lt k hk).1)
          clear hown hown' hgrow e0 e1 e2 e3 hix
          go_wp2
          go_roundw
          case rel => exact ⟨k + 1, xs ++ [b3, b2, b1, b0], by omega, by go_num, HN.out, by have := HLen.out; simp; omega, hown2, hb'⟩
          case measure => simp [intOf]; omega
        · obtain rfl : k = 8 := by omega
          have e : xs = sumL s.data.toList := by rw [← HF.out, HXs.out]; rfl
          have hcv := conv_own rfl hown (by have := HLen.out; omega)
          rw [e] at hcv
          clear hown e HXs HLen
          go_wp2
          go_ret
          exact ⟨rfl, hb⟩
end Go.Proofs.YthopegokjbibmaaDoor.Sha
