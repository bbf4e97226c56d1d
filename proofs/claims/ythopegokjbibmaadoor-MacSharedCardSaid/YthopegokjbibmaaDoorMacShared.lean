/-
  demesnelaw07.MacShared, for every input: two tokens that are made of one by narrowing don't touch one another, nor the one that they were made of: all three stay right by the key (the law answers true, and its arguments read as before).
  Conditions: none beyond the row's own (the reach; what the row lists, tied by the card).
-/
import Derived.Test.YthopegokjbibmaaDoorMExam
import Derived.Test.YthopegokjbibmaaDoorMArgs
import Derived.Test.YthopegokjbibmaaDoorMTake
import Derived.Test.YthopegokjbibmaaDoorMMade
import Derived.Test.YthopegokjbibmaaDoorMEq
import Derived.Test.YthopegokjbibmaaDoorHRoots
import Derived.Test.YthopegokjbibmaaDoorEnd
import Derived.Test.YthopegokjbibmaaDoorTie
import Derived.Test.YthopegokjbibmaaDoorCards
import Derived.LaidMore
import Derived.Lay
import Derived.PlainAid
import Derived.SevenTiedAt
import Derived.Stop.Joined
namespace Go.Proofs.YthopegokjbibmaaDoor.macShared
open Go.RowKit Go.Proofs.YthopegokjbibmaaDoor.Sha Go.Proofs.YthopegokjbibmaaDoor.Mac
open Go.Proofs.YthopegokjbibmaaDoor.Boxes (cells3 keep)

theorem check_yes {key : ByteArray} (hk : key.size ≤ 1125899906842624) {v : Value} {ls : List Cav} {S : ByteArray} (hS : S.data.toList = chainL (signL key.data.toList [97]) ls) (hm : mayL ls = true) (w : World) (hR : Roots w) (hv : Row w v ls) :
    Calls Tryd.prog 20 #[.string key, .agg #[.string ⟨#[97]⟩, v, .string S]] w fun e w' => e = .returned (.bool true) ∧ Below w.heap.size w w' := by
  have := check_any key ⟨#[97]⟩ S v ls hk (show 1 ≤ 1125899906842624 by decide) w hR hv hv.len
  rwa [show checkL key.data.toList (⟨#[97]⟩ : ByteArray).data.toList ls S.data.toList = true by unfold checkL; rw [hm, hS, Bool.true_and, decide_eq_true_eq]] at this
theorem key_size (key : ByteArray) (m : Nat) (hm : m ≤ 100) : (key.extract 0 m).size ≤ 1125899906842624 := by rw [ByteArray.size_extract]; omega
theorem may_snoc {ls : List Cav} {c : Cav} (h : mayL ls = true) (hl : ls.length ≤ 7) (hc : strange c = false) : mayL (ls ++ [c]) = true := by
  unfold mayL at h ⊢
  rw [Bool.and_eq_true, Bool.not_eq_true'] at h
  rw [List.length_append, List.any_append, h.2, Bool.false_or, decide_eq_true (by simp; omega)]
  simp [hc]
set_option maxHeartbeats 4000000 in
set_option maxRecDepth 100000 in
theorem walk (key0 : ByteArray) (hk0 : key0.size ≤ 140737488351232) (v : Value) (ls0 : List Cav) (c : Cav) (hc : Mac.Fair c) (d : Cav) (hd : Mac.Fair d) (w : World) (hR : Roots w) (hv : Row w v ls0) :
    Calls Tryd.prog 8 #[.string key0, v, Mac.val c, Mac.val d] w fun e w' => e = .returned (.bool true) ∧ Below w.heap.size w w' := by
  obtain ⟨c1, cn⟩ := c
  obtain ⟨d1, dn⟩ := d
  obtain ⟨a, cap, rfl, hcap, hm⟩ := hv.slice
  have hlen := hv.len
  obtain ⟨m, hmm⟩ : ∃ m, m = min key0.size 100 := ⟨_, rfl⟩
  have hmin : min (key0.size : Int) 100 = (m : Int) := by omega
  have hmc : (m : Int) ≤ (key0.size : Int) := by omega
  have hks := key_size key0 m (by omega)
  obtain ⟨key, hkey⟩ : ∃ key, key0.extract 0 m = key := ⟨_, rfl⟩
  rw [hkey] at hks
  obtain ⟨q, hqq⟩ : ∃ q, q = min ls0.length 7 := ⟨_, rfl⟩
  have hminq : min (ls0.length : Int) 7 = (q : Int) := by omega
  have hqc : (q : Int) ≤ (cap : Int) := by omega
  have hq7 : q ≤ 7 := by omega
  have hvt := hv.take q (by omega)
  have hll : (ls0.take q).length = q := by rw [List.length_take]; omega
  obtain ⟨ls, hls⟩ : ∃ ls, ls0.take q = ls := ⟨_, rfl⟩
  rw [hls] at hvt hll
  have hml : (madeL ls).length = q := by rw [madeL_len, hll]; omega
  have HNar := Lib.hid fun w' (h : Roots w') (hb : Below w.heap.size w w') => narrowed_any key ⟨#[97]⟩ hks (show 1 ≤ 1125899906842624 by decide) _ ls w' h (hvt.below hb)
  obtain ⟨S, hS⟩ : ∃ S, str (chainL (signL key.data.toList (⟨#[97]⟩ : ByteArray).data.toList) (madeL ls)) = S := ⟨_, rfl⟩
  rw [hS] at HNar
  have HS : Hid (S.data.toList = chainL (signL key.data.toList [97]) (madeL ls)) := Lib.hid (by rw [← hS, str_toList])
  have hSz : S.size = 32 := by rw [← size_list, HS.out]; exact chainL_len (signL_len _ _) _
  have HFair := Lib.hid (made_fair hvt.fair)
  have HML := Lib.hid hml
  have HR := Lib.hid hR
  have HFc : Hid (Mac.Fair (1, cn)) := Lib.hid ⟨by simp only; omega, by simp only; omega, hc.2.2⟩
  have HFd : Hid (Mac.Fair (2, dn)) := Lib.hid ⟨by simp only; omega, by simp only; omega, hd.2.2⟩
  have hb0 : Below w.heap.size w ((w.alloc (.cells #[.int .i64 c1, .int .u64 (cn : Int)] 27)).alloc (.cells #[.int .i64 d1, .int .u64 (dn : Int)] 27)) := ((Below.refl _ _).alloc (Nat.le_refl _) _).alloc (by simp) _
  have hx6 : ((w.alloc (.cells #[.int .i64 c1, .int .u64 (cn : Int)] 27)).alloc (.cells #[.int .i64 d1, .int .u64 (dn : Int)] 27)).heap[w.heap.size]? = some (.cells #[.int .i64 c1, .int .u64 (cn : Int)] 27) := (heap_alloc_old _ _ (by simp)).trans (heap_alloc_new _ _)
  have hx7 : ((w.alloc (.cells #[.int .i64 c1, .int .u64 (cn : Int)] 27)).alloc (.cells #[.int .i64 d1, .int .u64 (dn : Int)] 27)).heap[w.heap.size + 1]? = some (.cells #[.int .i64 d1, .int .u64 (dn : Int)] 27) := by
    have := heap_alloc_new (w.alloc (.cells #[.int .i64 c1, .int .u64 (cn : Int)] 27)) (.cells #[.int .i64 d1, .int .u64 (dn : Int)] 27)
    rwa [World.size_alloc] at this
  clear hR hv hvt hls hS hmm hqq hc hd hll hml
  unfold Mac.val
  go_enter Tryd.func8, Tryd.ntmps8
  go_wp2_with fail
  with_reducible refine (examples_any _ (HR.out.below hb0)).mono ?_
  rintro e w1 ⟨rfl, b1⟩
  have hb1 := hb0.trans (b1.mono hb0.size)
  have x6 := keep hx6 b1
  have x7 := keep hx7 b1
  have hX7 := (Array.getElem?_eq_some_iff.1 x7).1
  go_wp2_with fail
  clear hkey hmin hmc hminq hqc
  with_reducible refine (HNar.out _ (HR.out.below hb1) hb1).mono ?_
  rintro e w2 ⟨⟨v2, rfl, hown⟩, b2⟩
  obtain ⟨a2, cap2, hv2, _⟩ := hown.slice
  rw [HML.out] at hv2
  subst hv2
  -- the token, and the two kinds
  have y6 := keep x6 b2
  have y7 := keep x7 b2
  have t10 := heap_alloc_new w2 (.cells #[.string ⟨#[97]⟩, .slice a2 q cap2, .string S] 24)
  have bA : Below w2.heap.size w2 (w2.alloc (.cells #[.string ⟨#[97]⟩, .slice a2 q cap2, .string S] 24)) := (Below.refl _ _).alloc (Nat.le_refl _) _
  have hb2 := hb1.trans (b2.mono hb1.size)
  have hbA := hb2.trans (bA.mono hb2.size)
  have z6 := keep y6 bA
  have z7 := keep y7 bA
  have hbS : Below w.heap.size w (((w2.alloc (.cells #[.string ⟨#[97]⟩, .slice a2 q cap2, .string S] 24)).setCell ⟨w.heap.size, 0, none⟩ (.int .i64 1)).setCell ⟨w.heap.size + 1, 0, none⟩ (.int .i64 2)) := (hbA.setCell (p := ⟨w.heap.size, 0, none⟩) (Nat.le_refl _) _).setCell (p := ⟨w.heap.size + 1, 0, none⟩) (Nat.le_succ _) _
  have ownS : Mine (((w2.alloc (.cells #[.string ⟨#[97]⟩, .slice a2 q cap2, .string S] 24)).setCell ⟨w.heap.size, 0, none⟩ (.int .i64 1)).setCell ⟨w.heap.size + 1, 0, none⟩ (.int .i64 2)) w1.heap.size (.slice a2 q cap2) (madeL ls) := ((hown.more bA).set (by omega)).set (by omega)
  have s6 : (((w2.alloc (.cells #[.string ⟨#[97]⟩, .slice a2 q cap2, .string S] 24)).setCell ⟨w.heap.size, 0, none⟩ (.int .i64 1)).setCell ⟨w.heap.size + 1, 0, none⟩ (.int .i64 2)).heap[w.heap.size]? = some (.cells #[.int .i64 1, .int .u64 (cn : Int)] 27) := set_else (heap_setCell_same _ _ 0 _ _ _ z6) (by omega)
  have s7 : (((w2.alloc (.cells #[.string ⟨#[97]⟩, .slice a2 q cap2, .string S] 24)).setCell ⟨w.heap.size, 0, none⟩ (.int .i64 1)).setCell ⟨w.heap.size + 1, 0, none⟩ (.int .i64 2)).heap[w.heap.size + 1]? = some (.cells #[.int .i64 2, .int .u64 (dn : Int)] 27) := heap_setCell_same _ _ 0 _ _ _ (set_else z7 (by omega))
  have s10 : (((w2.alloc (.cells #[.string ⟨#[97]⟩, .slice a2 q cap2, .string S] 24)).setCell ⟨w.heap.size, 0, none⟩ (.int .i64 1)).setCell ⟨w.heap.size + 1, 0, none⟩ (.int .i64 2)).heap[w2.heap.size]? = some (.cells #[.string ⟨#[97]⟩, .slice a2 q cap2, .string S] 24) := set_else (set_else t10 (by have := b2.size; omega)) (by have := b2.size; omega)
  obtain ⟨p0, p1, e0, e1⟩ := cells2 z6
  obtain ⟨p2, p3, e2, e3⟩ := cells2 z7
  obtain ⟨r0, r1, r2, _⟩ := cells3 s10
  obtain ⟨r3, r4, _⟩ := cells2 s6
  have HN3 := Lib.hid (narrow_any ⟨#[97]⟩ S (.slice a2 q cap2) (madeL ls) (1, cn) HFc.out (by omega) _ (HR.out.below hbS) (ownS.row HFair.out) (by rw [HML.out]; omega))
  obtain ⟨S3, hS3⟩ : ∃ Y, str (signL S.data.toList (putC (1, cn))) = Y := ⟨_, rfl⟩
  rw [hS3] at HN3
  have HS3 : Hid (S3.data.toList = chainL (signL key.data.toList [97]) (madeL ls ++ [(1, cn)])) := Lib.hid (by rw [← hS3, str_toList, chainL_snoc, HS.out])
  unfold Mac.val at HN3
  have HBS := Lib.hid hbS
  have HOS := Lib.hid ownS
  have H6 := Lib.hid s6
  have H7 := Lib.hid s7
  have H10 := Lib.hid s10
  clear hS3 hown t10 bA hb2 hbA y6 y7 z6 z7 x6 x7 hx6 hx7 hb0 hb1 b1 b2 hbS ownS s6 s7 s10 hcap hm
  go_wp2_with fail
  obtain ⟨W, hW⟩ : ∃ W, W = ((w2.alloc (.cells #[.string ⟨#[97]⟩, .slice a2 q cap2, .string S] 24)).setCell ⟨w.heap.size, 0, none⟩ (.int .i64 1)).setCell ⟨w.heap.size + 1, 0, none⟩ (.int .i64 2) := ⟨_, rfl⟩
  rw [← hW] at HN3 HBS HOS H6 H7 H10 ⊢
  clear hW r0 r1 r2 r3 r4 p0 p1 p2 p3 e0 e1 e2 e3 HNar
  with_reducible refine HN3.out.mono ?_
  rintro e w3 ⟨⟨v3, rfl, hown3⟩, b3⟩
  have hl3 : (madeL ls ++ [(1, cn)]).length = q + 1 := by rw [List.length_append, HML.out]; rfl
  have f3 : ∀ y ∈ madeL ls ++ [((1 : Int), cn)], Mac.Fair y := fun y hy => by
    rcases List.mem_append.1 hy with h | h
    · exact HFair.out y h
    · rw [List.mem_singleton] at h; rw [h]; exact HFc.out
  have row3 := hown3.row f3
  obtain ⟨a3, cap3, hv3, _⟩ := hown3.slice
  rw [hl3] at hv3
  subst hv3
  have b3a : Below w3.heap.size w3 (w3.alloc (.cells #[.string ⟨#[97]⟩, .slice a3 (q + 1) cap3, .string S3] 24)) := (Below.refl _ _).alloc (Nat.le_refl _) _
  have b3b := b3.trans (b3a.mono b3.size)
  have t11 := heap_alloc_new w3 (.cells #[.string ⟨#[97]⟩, .slice a3 (q + 1) cap3, .string S3] 24)
  obtain ⟨r0, r1, r2, _⟩ := cells3 (keep H10.out b3b)
  obtain ⟨r3, r4, _⟩ := cells2 (keep H7.out b3b)
  have HB3 := Lib.hid (HBS.out.trans (b3b.mono HBS.out.size))
  have HN4 := Lib.hid (narrow_any ⟨#[97]⟩ S (.slice a2 q cap2) (madeL ls) (2, dn) HFd.out (by omega) _ (HR.out.below HB3.out) ((HOS.out.more b3b).row HFair.out) (by rw [HML.out]; omega))
  obtain ⟨S4, hS4⟩ : ∃ Y, str (signL S.data.toList (putC (2, dn))) = Y := ⟨_, rfl⟩
  rw [hS4] at HN4
  have HS4 : Hid (S4.data.toList = chainL (signL key.data.toList [97]) (madeL ls ++ [(2, dn)])) := Lib.hid (by rw [← hS4, str_toList, chainL_snoc, HS.out])
  unfold Mac.val at HN4
  have ROW3 := Lib.hid (row3.below b3a)
  have K6 := Lib.hid (keep H6.out b3b)
  have K7 := Lib.hid (keep H7.out b3b)
  have K10 := Lib.hid (keep H10.out b3b)
  have K11 := Lib.hid t11
  have KO := Lib.hid (HOS.out.more b3b)
  clear hown3 row3 hS4 t11 b3a b3b b3 HN3 HBS HOS H6 H7 H10
  go_wp2_with fail
  obtain ⟨V, hV⟩ : ∃ V, V = w3.alloc (.cells #[.string ⟨#[97]⟩, .slice a3 (q + 1) cap3, .string S3] 24) := ⟨_, rfl⟩
  rw [← hV] at HB3 HN4 ROW3 K6 K7 K10 K11 KO ⊢
  clear hV r0 r1 r2 r3 r4
  with_reducible refine HN4.out.mono ?_
  rintro e w4 ⟨⟨v4, rfl, hown4⟩, b4⟩
  have hl4 : (madeL ls ++ [(2, dn)]).length = q + 1 := by rw [List.length_append, HML.out]; rfl
  have f4 : ∀ y ∈ madeL ls ++ [((2 : Int), dn)], Mac.Fair y := fun y hy => by
    rcases List.mem_append.1 hy with h | h
    · exact HFair.out y h
    · rw [List.mem_singleton] at h; rw [h]; exact HFd.out
  have row4 := hown4.row f4
  obtain ⟨a4, cap4, hv4, _⟩ := hown4.slice
  rw [hl4] at hv4
  subst hv4
  have b4a : Below w4.heap.size w4 (w4.alloc (.cells #[.string ⟨#[97]⟩, .slice a4 (q + 1) cap4, .string S4] 24)) := (Below.refl _ _).alloc (Nat.le_refl _) _
  have b4b := b4.trans (b4a.mono b4.size)
  have t12 := heap_alloc_new w4 (.cells #[.string ⟨#[97]⟩, .slice a4 (q + 1) cap4, .string S4] 24)
  have u10 := keep K10.out b4b
  have u11 := keep K11.out b4b
  have u6 := keep K6.out b4b
  have u7 := keep K7.out b4b
  have R1 := (KO.out.more b4b).row HFair.out
  have R3 := ROW3.out.below b4b
  have R4 := row4.below b4a
  have HB4 := Lib.hid (HB3.out.trans (b4b.mono HB3.out.size))
  obtain ⟨x0, x1, x2, _⟩ := cells3 u10
  obtain ⟨x3, x4, x5, _⟩ := cells3 u11
  obtain ⟨x6, x7, x8, _⟩ := cells3 t12
  have hq1 : ((q : Int) + 1 == (q : Int) + 1) = true := by simp
  clear hown4 row4 b4a b4b b4 HN4 KO ROW3 K6 K7 K10 K11 HB3
  go_wp2_with fail
  obtain ⟨U, hU⟩ : ∃ U, U = w4.alloc (.cells #[.string ⟨#[97]⟩, .slice a4 (q + 1) cap4, .string S4] 24) := ⟨_, rfl⟩
  rw [← hU] at u6 u7 u10 u11 t12 R1 R3 R4 HB4 ⊢
  obtain ⟨g3, o3, rfl, hg3, cs3⟩ := R3.cells (k := q) (by rw [hl3]; omega)
  obtain ⟨g4, o4, rfl, hg4, cs4⟩ := R4.cells (k := q) (by rw [hl4]; omega)
  obtain ⟨_, y0, y1⟩ := cs3 q (1, cn) (by rw [List.getElem?_append_right (by rw [HML.out]; omega), HML.out]; simp)
  obtain ⟨_, y2, y3⟩ := cs4 q (2, dn) (by rw [List.getElem?_append_right (by rw [HML.out]; omega), HML.out]; simp)
  have RU := HR.out.below HB4.out
  have m0 := made_may ls
  have m3 : mayL (madeL ls ++ [(1, cn)]) = true := may_snoc m0 (by rw [HML.out]; exact hq7) (by simp [strange])
  have m4 : mayL (madeL ls ++ [(2, dn)]) = true := may_snoc m0 (by rw [HML.out]; exact hq7) (by simp [strange])
  have C1 : Hid (∀ z : Quiet.Behind U, Calls Tryd.prog 20 #[.string key, .agg #[.string ⟨#[97]⟩, .slice a2 q cap2, .string S]] z.world fun e w' => e = .returned (.bool true) ∧ Below z.world.heap.size z.world w') := Lib.hid fun z => check_yes hks HS.out m0 _ (RU.below z.below) (R1.below z.below)
  have C3 : Hid (∀ z : Quiet.Behind U, Calls Tryd.prog 20 #[.string key, .agg #[.string ⟨#[97]⟩, .slice (some ⟨g3, o3, none⟩) (q + 1) cap3, .string S3]] z.world fun e w' => e = .returned (.bool true) ∧ Below z.world.heap.size z.world w') := Lib.hid fun z => check_yes hks HS3.out m3 _ (RU.below z.below) (R3.below z.below)
  have C4 : Hid (∀ z : Quiet.Behind U, Calls Tryd.prog 20 #[.string key, .agg #[.string ⟨#[97]⟩, .slice (some ⟨g4, o4, none⟩) (q + 1) cap4, .string S4]] z.world fun e w' => e = .returned (.bool true) ∧ Below z.world.heap.size z.world w') := Lib.hid fun z => check_yes hks HS4.out m4 _ (RU.below z.below) (R4.below z.below)
  have E1 : ∀ w, (binOp .eql 27 (.agg #[.int .i64 1, .int .u64 (cn : Int)]) (.agg #[.int .i64 1, .int .u64 (cn : Int)])).run Tryd.prog w = .ok (.bool true) w := fun w => by
    have := eql_cav (1, cn) (1, cn) w
    rwa [eqC_self] at this
  have E2 : ∀ w, (binOp .eql 27 (.agg #[.int .i64 2, .int .u64 (dn : Int)]) (.agg #[.int .i64 2, .int .u64 (dn : Int)])).run Tryd.prog w = .ok (.bool true) w := fun w => by
    have := eql_cav (2, dn) (2, dn) w
    rwa [eqC_self] at this
  have q10 := fun i v (h : (#[Value.string ⟨#[97]⟩, .slice a2 q cap2, .string S] : Array Value)[i]? = some v) => Quiet.cell (a := ⟨w2.heap.size, i, none⟩) (Array.getElem?_eq_some_iff.1 u10).1 (cell_at u10 h)
  have q11 := fun i v (h : (#[Value.string ⟨#[97]⟩, .slice (some ⟨g3, o3, none⟩) (q + 1) cap3, .string S3] : Array Value)[i]? = some v) => Quiet.cell (a := ⟨w3.heap.size, i, none⟩) (Array.getElem?_eq_some_iff.1 u11).1 (cell_at u11 h)
  have q12 := fun i v (h : (#[Value.string ⟨#[97]⟩, .slice (some ⟨g4, o4, none⟩) (q + 1) cap4, .string S4] : Array Value)[i]? = some v) => Quiet.cell (a := ⟨w4.heap.size, i, none⟩) (Array.getElem?_eq_some_iff.1 t12).1 (cell_at t12 h)
  have q6 := fun i v (h : (#[Value.int .i64 1, .int .u64 (cn : Int)] : Array Value)[i]? = some v) => Quiet.cell (a := ⟨w.heap.size, i, none⟩) (Array.getElem?_eq_some_iff.1 u6).1 (cell_at u6 h)
  have q7 := fun i v (h : (#[Value.int .i64 2, .int .u64 (dn : Int)] : Array Value)[i]? = some v) => Quiet.cell (a := ⟨w.heap.size + 1, i, none⟩) (Array.getElem?_eq_some_iff.1 u7).1 (cell_at u7 h)
  have l0 := q10 0 _ rfl
  have l1 := q10 1 _ rfl
  have l2 := q10 2 _ rfl
  have l3 := q11 0 _ rfl
  have l4 := q11 1 _ rfl
  have l5 := q11 2 _ rfl
  have l6 := q12 0 _ rfl
  have l7 := q12 1 _ rfl
  have l8 := q12 2 _ rfl
  have l9 := q6 0 _ rfl
  have l10 := q6 1 _ rfl
  have l11 := q7 0 _ rfl
  have l12 := q7 1 _ rfl
  have l13 := Quiet.cell (a := ⟨g3, o3 + q * 2, none⟩) hg3 y0
  have l14 := Quiet.cell (a := ⟨g3, o3 + q * 2 + 1, none⟩) hg3 y1
  have l15 := Quiet.cell (a := ⟨g4, o4 + q * 2, none⟩) hg4 y2
  have l16 := Quiet.cell (a := ⟨g4, o4 + q * 2 + 1, none⟩) hg4 y3
  have hqz : (q : Int) < (q : Int) + 1 := by omega
  clear hU cs3 cs4 y0 y1 y2 y3 R1 R3 R4 u6 u7 u10 u11 t12 q10 q11 q12 q6 q7 hg3 hg4 RU m0 m3 m4 x0 x1 x2 x3 x4 x5 x6 x7 x8 f3 f4 hl3 hl4
  refine Quiet.region (by kernel_rfl) (by kernel_rfl) ?_
  repeat (go_big_quiet_step (first | (go_at_call 20; (with_reducible exact Quiet.calls (C1.out _))) | (go_at_call 20; (with_reducible exact Quiet.calls (C3.out _))) | (go_at_call 20; (with_reducible exact Quiet.calls (C4.out _)))))
  refine wpQuiet_nil ?_
  rintro _ ⟨pq, rfl⟩
  have hq := pq.below
  generalize pq.world = wq at hq ⊢
  go_wp2
  go_ret
  exact ⟨rfl, HB4.out.trans (hq.mono HB4.out.size)⟩
open Go.ChangeShapes Go.WideShapes Go.ChangeAt
set_option maxRecDepth 100000 in
theorem lifted (os : Os) (started : os.Started) (H : Type) (enc : TypeId × Value → H) :
    ReturnsInHanded {} Tryd.checked os 8 .any (fun w args => (Rows.macSharedSpec.pre enc Tryd.prog Tryd.f8 Rows.macSharedRow.domain false w args ∧ laidMetH Tryd.prog Rows.macSharedRow.laid w) ∧ sizedMet enc Tryd.prog Tryd.f8 (OpenSpec.ofChange Rows.macSharedSpec) false w args)
      (Rows.macSharedSpec.post enc Tryd.prog Tryd.f8 false true false false) := by
  refine returnsInHanded_of_change_and (C := Tryd.checked) (X := fun w _ => laidMetH Tryd.prog Rows.macSharedRow.laid w) (fun _ _ _ hh h => h.of_heap hh) Ends.own started (by kernel_rfl) Tryd.func8
    (ChangeSpec.witness_shaped (enc := enc) (C := Tryd.checked) (os := os) (X := fun w _ => laidMetH Tryd.prog Rows.macSharedRow.laid w) false (World.laidAll Tryd.prog os Rows.macSharedRow.laid) #[.string ⟨#[]⟩, .slice none 0 0, .agg #[.int .i64 0, .int .u64 0], .agg #[.int .i64 0, .int .u64 0]] 8 (World.laidAll_os _ _ _)
      (World.shaped_of_ZipB (by kernel_rfl) (by kernel_rfl)) (by kernel_rfl) (by kernel_rfl) (by kernel_rfl)
      (by rw [MakeChecks.laidMetH_plain _ _ _ (by kernel_rfl)]; exact laidMet_laidAll _ (by kernel_rfl) (by kernel_rfl))) ?_
  intro W base args ds gs before hval0 hW _ hsz0 hL _
  have hval : ∀ (j : Nat) t v, Tryd.f8.params[j]? = some t → args[j]? = some v → Value.okWide Tryd.prog W .any base t v := hval0
  have hsz : (DataW.weightsEach Tryd.prog (Tryd.f8.params.toList ++ Rows.macSharedSpec.plain.varTypes Tryd.prog) (ds ++ gs)).all (· ≤ reachBytes) = true := hsz0
  have hW' := hW
  obtain ⟨p, q, hA0, hV, rfl, hfz, hnd⟩ := hW
  have hA : DataW.TrodAll enc Tryd.prog W 0 (fun _ => true) true Tryd.f8.params.toList args.toList ds p := hA0
  rw [Tryd.params8] at hA hval hsz
  obtain ⟨v0, vs0, d0, ds0, p0, q0, hargs, rfl, rfl, h0, r0⟩ := trodAll_cons hA
  obtain ⟨v1, vs1, d1, ds1, p1, q1, rfl, rfl, rfl, h1, r1⟩ := trodAll_cons r0
  obtain ⟨v2, vs2, d2, ds2, p2, q2, rfl, rfl, rfl, h2, r2⟩ := trodAll_cons r1
  obtain ⟨v3, vs3, d3, ds3, p3, q3, rfl, rfl, rfl, h3, r3⟩ := trodAll_cons r2
  obtain ⟨rfl, rfl, rfl⟩ := trodAll_nil r3
  obtain rfl : args = #[v0, v1, v2, v3] := by cases args; simp_all
  obtain ⟨rfl, rfl⟩ := trodVars_none hV
  obtain ⟨a0, rfl, rfl, rfl, w0⟩ := Go.ChangeMaps.open_string Tryd.underlying9 (hval 0 9 v0 rfl rfl) h0
  obtain ⟨a1, w1⟩ := Mac.open_cavs (hval 1 22 v1 rfl rfl) h1
  obtain ⟨a2, rfl, w2⟩ := Mac.open_cav (hval 2 27 v2 rfl rfl) h2
  obtain ⟨a3, rfl, w3⟩ := Mac.open_cav (hval 3 27 v3 rfl rfl) h3
  have b0 : a0.size ≤ 140737488351232 := by have := sized_string hsz (j := 0) rfl rfl; rw [Array.length_toList] at this; exact this
  refine (walk a0 b0 v1 a1 a2 w2 a3 w3 W (Sha.roots_met (by kernel_rfl) hL) w1).mono fun e W' ⟨he, hb⟩ => ?_
  subst he
  exact ⟨_, rfl, Ends.law_end Ends.laidOut (by rw [Tryd.params8]; decide +kernel) rfl (by kernel_rfl) Tryd.underlying4 hW' rfl hb⟩

theorem row : Rows.MacSharedSaid :=
  OpenClaim.holds_of_wide 8 Tryd.f8 rfl rfl rfl rfl rfl rfl rfl ⟨rfl, rfl, rfl, rfl, rfl⟩ rfl rfl rfl rfl rfl (by kernel_rfl) Tryd.func8 (by kernel_rfl)
    (of_decide_eq_true (by kernel_rfl)) (by unfold Func.isWrapper; first | (rw [if_pos (by decide +kernel)]; kernel_rfl) | (rw [if_neg (by decide +kernel)]; exact ⟨rfl, rfl⟩))
    (fun os started H enc _ => lifted os started H enc)

/-- The statement: the tied card. -/
theorem proved : Rows.MacSharedCardSaid :=
  Claim7.holds_tied_plain_at .later [] [.data, .data] true Rows.macSharedCard.stood.harness false row (fun _ h => by cases h) (by kernel_rfl) (fun _ h => by cases h) macShared_row_tie rfl ⟨rfl, rfl⟩ (by kernel_rfl) rfl
    (fun f fn hf hfn => by
      obtain rfl : f = 8 := Option.some.inj ((show Tryd.prog.funcNamed "demesne/demesnelaw07.MacShared" = some 8 by kernel_rfl).symm.trans hf) |>.symm
      obtain rfl : fn = Tryd.f8 := (Option.some.inj (Tryd.func8.symm.trans hfn)).symm
      exact ⟨by kernel_rfl, fun j t ht => by
        rw [Tryd.params8] at ht
        have hm : t ∈ [9, 22, 27, 27] := by simpa using Array.mem_of_getElem? ht
        have hall : ([9, 22, 27, 27].all fun u => !Tryd.prog.wantsStandIn u) = true := by kernel_rfl
        exact (show Tryd.prog.wantsStandIn t = false by simpa using List.all_eq_true.1 hall t hm)⟩)
    (by kernel_rfl)
end Go.Proofs.YthopegokjbibmaaDoor.macShared
