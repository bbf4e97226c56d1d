/-
  demesnelaw07.MacChecks, for every input: a token that a key made is right by that key, however it was narrowed; with its sum's bytes other ones it is not (the law answers true, and its arguments read as before).
  Conditions: none beyond the row's own (the reach; what the row lists, tied by the card).
-/
import Derived.Test.YthopegokjbibmaaDoorMExam
import Derived.Test.YthopegokjbibmaaDoorMArgs
import Derived.Test.YthopegokjbibmaaDoorMMade
import Derived.Test.YthopegokjbibmaaDoorHRoots
import Derived.Test.YthopegokjbibmaaDoorEnd
import Derived.Test.YthopegokjbibmaaDoorTie
import Derived.Test.YthopegokjbibmaaDoorCards
import Derived.Lib.ConvBytes
import Derived.Laws.IdiomStrings
import Derived.LaidMore
import Derived.Lay
import Derived.PlainAid
import Derived.SevenTiedAt
import Derived.Stop.Joined
namespace Go.Proofs.YthopegokjbibmaaDoor.macChecks
open Go.RowKit Go.Proofs.YthopegokjbibmaaDoor.Sha Go.Proofs.YthopegokjbibmaaDoor.Mac
open Go.Proofs.YthopegokjbibmaaDoor.Boxes (cells3 keep)

/-- A key's first bytes, a token that was narrowed, its sum: right, and not with another sum. -/
theorem check_yes {key : ByteArray} (hk : key.size ≤ 1125899906842624) {v : Value} {ls : List Cav} {S : ByteArray} (hS : S.data.toList = chainL (signL key.data.toList [97]) ls) (hm : mayL ls = true) (w : World) (hR : Roots w) (hv : Row w v ls) :
    Calls Tryd.prog 20 #[.string key, .agg #[.string ⟨#[97]⟩, v, .string S]] w fun e w' => e = .returned (.bool true) ∧ Below w.heap.size w w' := by
  have := check_any key ⟨#[97]⟩ S v ls hk (show 1 ≤ 1125899906842624 by decide) w hR hv hv.len
  rwa [show checkL key.data.toList (⟨#[97]⟩ : ByteArray).data.toList ls S.data.toList = true by unfold checkL; rw [hm, hS, Bool.true_and, decide_eq_true_eq]] at this
theorem check_not {key : ByteArray} (hk : key.size ≤ 1125899906842624) {v : Value} {ls : List Cav} {S : ByteArray} (hS : chainL (signL key.data.toList [97]) ls ≠ S.data.toList) (w : World) (hR : Roots w) (hv : Row w v ls) :
    Calls Tryd.prog 20 #[.string key, .agg #[.string ⟨#[97]⟩, v, .string S]] w fun e w' => e = .returned (.bool false) ∧ Below w.heap.size w w' := by
  have := check_any key ⟨#[97]⟩ S v ls hk (show 1 ≤ 1125899906842624 by decide) w hR hv hv.len
  rwa [show checkL key.data.toList (⟨#[97]⟩ : ByteArray).data.toList ls S.data.toList = false by unfold checkL; rw [show decide (chainL (signL key.data.toList (⟨#[97]⟩ : ByteArray).data.toList) ls = S.data.toList) = false from decide_eq_false hS, Bool.and_false]] at this
theorem xor_other (c x : UInt8) (hx : x ≠ 0) : c ^^^ x ≠ c := fun h => hx (by
  have h1 := congrArg UInt8.toNat h
  rw [UInt8.toNat_xor] at h1
  have h2 := congrArg (c.toNat ^^^ ·) h1
  simp only [← Nat.xor_assoc, Nat.xor_self, Nat.zero_xor] at h2
  exact UInt8.toNat_inj.1 h2)
theorem set_other {l : List UInt8} {j : Nat} {c x : UInt8} (hj : l[j]? = some c) (hx : x ≠ 0) : l ≠ l.set j (c ^^^ x) := fun h => by
  have := congrArg (·[j]?) h
  simp only [hj, List.getElem?_set_self (List.getElem?_eq_some_iff.1 hj).1] at this
  injection this with this
  exact xor_other c x hx this.symm
theorem key_size (key : ByteArray) (m : Nat) (hm : m ≤ 100) : (key.extract 0 m).size ≤ 1125899906842624 := by rw [ByteArray.size_extract]; omega

set_option maxHeartbeats 4000000 in
set_option maxRecDepth 100000 in
theorem walk (key0 : ByteArray) (hk0 : key0.size ≤ 140737488351232) (v : Value) (ls : List Cav) (how : Int) (ho0 : 0 ≤ how) (ho1 : how ≤ 255) (at0 : Int) (ha0 : 0 ≤ at0) (ha1 : at0 ≤ 255) (w : World) (hR : Roots w) (hv : Row w v ls) :
    Calls Tryd.prog 4 #[.string key0, v, .int .u8 how, .int .u8 at0] w fun e w' => e = .returned (.bool true) ∧ Below w.heap.size w w' := by
  obtain ⟨a, cap, rfl, hcap, hm⟩ := hv.slice
  have hlen := hv.len
  obtain ⟨m, hmm⟩ : ∃ m, m = min key0.size 100 := ⟨_, rfl⟩
  have hmin : min (key0.size : Int) 100 = (m : Int) := by omega
  have hmc : (m : Int) ≤ (key0.size : Int) := by omega
  have hks := key_size key0 m (by omega)
  obtain ⟨key, hkey⟩ : ∃ key, key0.extract 0 m = key := ⟨_, rfl⟩
  obtain ⟨q, hqq⟩ : ∃ q, q = min ls.length 8 := ⟨_, rfl⟩
  have hminq : min (ls.length : Int) 8 = (q : Int) := by omega
  rw [hkey] at hks
  have HNar := Lib.hid fun w' (h : Roots w') (hb : Below w.heap.size w w') => narrowed_any key ⟨#[97]⟩ hks (show 1 ≤ 1125899906842624 by decide) _ ls w' h (hv.below hb)
  obtain ⟨S, hS⟩ : ∃ S, str (chainL (signL key.data.toList (⟨#[97]⟩ : ByteArray).data.toList) (madeL ls)) = S := ⟨_, rfl⟩
  rw [hS] at HNar
  have HS : Hid (S.data.toList = chainL (signL key.data.toList [97]) (madeL ls)) := Lib.hid (by rw [← hS, str_toList])
  have hSz : S.size = 32 := by rw [← size_list, HS.out]; exact chainL_len (signL_len _ _) _
  have HFair := Lib.hid (made_fair hv.fair)
  have HQ : Hid ((madeL ls).length = q) := Lib.hid (by rw [madeL_len, hqq])
  have HR := Lib.hid hR
  clear hR hv hS hmm hqq
  go_enter Tryd.func4, Tryd.ntmps4
  go_wp2_with fail
  with_reducible refine (examples_any _ HR.out).mono ?_
  rintro e w1 ⟨rfl, b1⟩
  go_wp2_with fail
  clear hkey hmin hmc
  with_reducible refine (HNar.out _ (HR.out.below b1) b1).mono ?_
  rintro e w2 ⟨⟨v2, rfl, hown⟩, b2⟩
  have row2 := hown.row HFair.out
  obtain ⟨a2, cap2, hv2, _⟩ := hown.slice
  rw [HQ.out] at hv2
  subst hv2
  have b12 := b1.trans (b2.mono b1.size)
  have b3 : Below w2.heap.size w2 (w2.alloc (.cells #[.string ⟨#[97]⟩, .slice a2 q cap2, .string S] 24)) := (Below.refl _ _).alloc (Nat.le_refl _) _
  have t10 := heap_alloc_new w2 (.cells #[.string ⟨#[97]⟩, .slice a2 q cap2, .string S] 24)
  have b123 := b12.trans (b3.mono b12.size)
  have HC := Lib.hid (check_yes hks HS.out (made_may ls) _ (HR.out.below b123) (row2.below b3))
  have ROW := Lib.hid (row2.below b3)
  clear hown row2 b1 b2 b12 b3 HNar
  go_wp2_with fail
  obtain ⟨V, hV⟩ : ∃ V, V = w2.alloc (.cells #[.string ⟨#[97]⟩, .slice a2 q cap2, .string S] 24) := ⟨_, rfl⟩
  rw [← hV] at t10 b123 HC ROW ⊢
  clear hV
  with_reducible refine HC.out.mono ?_
  rintro e w4 ⟨rfl, b4⟩
  have t10' := keep t10 b4
  have T10 := Lib.hid t10'
  have hlt10 : w2.heap.size < w4.heap.size := (Array.getElem?_eq_some_iff.1 t10').1
  obtain ⟨k0, k1, k2, _⟩ := cells3 t10'
  have BW := Lib.hid (b123.trans (b4.mono b123.size))
  have ROW4 := Lib.hid (ROW.out.below b4)
  have HSz := Lib.hid hSz
  clear t10 t10' b4 HC ROW b123 hcap hm
  obtain ⟨r, hrr⟩ : ∃ r : Int, how % 4 = r := ⟨_, rfl⟩
  have hr : r = 0 ∨ r = 1 ∨ r = 2 ∨ r = 3 := by omega
  rcases hr with rfl | rfl | rfl | rfl
  · have t11 := heap_alloc_new w4 (.cells #[.string ⟨#[97]⟩, .slice a2 q cap2, .string S] 24)
    have bB : Below w4.heap.size w4 (w4.alloc (.cells #[.string ⟨#[97]⟩, .slice a2 q cap2, .string S] 24)) := (Below.refl _ _).alloc (Nat.le_refl _) _
    have u10 := keep T10.out bB
    obtain ⟨W4, hW4⟩ : ∃ W, W = w4.alloc (.cells #[.string ⟨#[97]⟩, .slice a2 q cap2, .string S] 24) := ⟨_, rfl⟩
    have hcv0 := Lib.run_convert_string_bytes (P := Tryd.prog) W4 9 52 5 S Tryd.underlying9 Tryd.underlying52 Tryd.underlying5
    rw [hSz] at hcv0
    have hgS : W4.heap.size = w4.heap.size + 1 := by rw [hW4, World.size_alloc]
    have bC : Below W4.heap.size W4 (Lib.bytesWorld W4 5 S) := ⟨rfl, rfl, rfl, by rw [Lib.bytesWorld_size]; omega, fun k hk => Lib.bytesWorld_at_old W4 5 S k hk⟩
    have hnew := Lib.bytesWorld_at_new W4 5 S
    obtain ⟨j, hj⟩ : ∃ j : Nat, (j : Int) = at0 % 32 := ⟨(at0 % 32).toNat, by omega⟩
    have hj32 : j < 32 := by omega
    have hjz : at0 % 32 = (j : Int) := hj.symm
    obtain ⟨c, hc⟩ : ∃ c, S.data.toList[j]? = some c := ⟨_, List.getElem?_eq_getElem (by rw [size_list, hSz]; exact hj32)⟩
    have hcell := Lib.bytesWorld_cell W4 5 S j (by omega)
    rw [show S.data.toList.getD j 0 = c by rw [List.getD_eq_getElem?_getD, hc]; rfl] at hcell
    have hall : ∀ i, i < 32 → (Lib.bytesWorld W4 5 S).cell? ⟨W4.heap.size, i, none⟩ = some (.int .u8 (S.data.toList.getD i 0).toNat) := fun i hi => Lib.bytesWorld_cell W4 5 S i (by omega)
    have hG : 32 ≤ (Lib.bytesCells W4 5 S).size := by unfold Lib.bytesCells; rw [Array.size_append, Array.size_map]; show 32 ≤ S.size + _; omega
    have hfz : (Lib.bytesWorld W4 5 S).frozen? ⟨W4.heap.size, j, none⟩ = false := by
      simp only [World.frozen?, hnew]
      simp
      omega
    obtain ⟨G, hGG⟩ : ∃ G, grownCap W4 32 0 5 = G := ⟨_, rfl⟩
    have hG32 : 32 ≤ G := by rw [← hGG]; exact grownCap_ge W4 _ _ _
    obtain ⟨W5, hW5⟩ : ∃ W, Lib.bytesWorld W4 5 S = W := ⟨_, rfl⟩
    rw [hW5] at hcv0 bC hcell hall hfz
    rw [hGG] at hcv0
    obtain ⟨g, hg⟩ : ∃ g, g = w4.heap.size + 1 := ⟨_, rfl⟩
    have hgW : W4.heap.size = g := by rw [hgS, hg]
    rw [hgW] at hcv0 hcell hall hfz bC
    have hcv : (convert 9 52 (.string S)).run Tryd.prog (w4.alloc (.cells #[.string ⟨#[97]⟩, .slice a2 q cap2, .string S] 24)) = .ok (.slice (some ⟨g, 0, none⟩) 32 G) W5 := by rw [← hW4]; exact hcv0
    have bW5 : Below w4.heap.size w4 W5 := bB.trans (by rw [← hW4]; exact bC.mono (by omega))
    have t11' : W5.heap[w4.heap.size]? = some (.cells #[.string ⟨#[97]⟩, .slice a2 q cap2, .string S] 24) := by
      have h1 := bC.block w4.heap.size (by omega)
      rw [hW4] at h1
      exact h1.trans t11
    have hjG : (j : Int) < 32 := by omega
    have HAll := Lib.hid hall
    have HC := Lib.hid hc
    have HLt4 : Hid (w4.heap.size < g) := Lib.hid (by omega)
    clear hcv0 hnew hG bB bC t11 u10 hW4 hW5 hGG hgS hgW hall hc hj hg W4
    have hsh : how / 4 % 8 = 0 ∨ how / 4 % 8 = 1 ∨ how / 4 % 8 = 2 ∨ how / 4 % 8 = 3 ∨ how / 4 % 8 = 4 ∨ how / 4 % 8 = 5 ∨ how / 4 % 8 = 6 ∨ how / 4 % 8 = 7 := by omega
    have key0 : ∀ x : UInt8, x ≠ 0 → Hid (∃ S' : ByteArray, bits .xor .u8 (c.toNat : Int) (x.toNat : Int) = ((c ^^^ x).toNat : Int) ∧
        (convert 52 9 (.slice (some ⟨g, 0, none⟩) 32 G)).run Tryd.prog (W5.setCell ⟨g, j, none⟩ (.int .u8 ((c ^^^ x).toNat : Int))) = .ok (.string S') (W5.setCell ⟨g, j, none⟩ (.int .u8 ((c ^^^ x).toNat : Int))) ∧
        ∀ w', Roots w' → Row w' (.slice a2 q cap2) (madeL ls) → Calls Tryd.prog 20 #[.string key, .agg #[.string ⟨#[97]⟩, .slice a2 q cap2, .string S']] w' fun e w'' => e = .returned (.bool false) ∧ Below w'.heap.size w' w'') := fun x hx => Lib.hid (by
      refine ⟨str (S.data.toList.set j (c ^^^ x)), xor_int c x, ?_, fun w' h hr => check_not hks (fun h => ?_) w' h hr⟩
      · have hl : (S.data.toList.set j (c ^^^ x)).length = 32 := by rw [List.length_set, size_list, HSz.out]
        have := run_convert_bytes_back (P := Tryd.prog) (W5.setCell ⟨g, j, none⟩ (.int .u8 ((c ^^^ x).toNat : Int))) 52 9 5 ⟨g, 0, none⟩ G (S.data.toList.set j (c ^^^ x)) Tryd.underlying52 Tryd.underlying5 Tryd.underlying9 (fun i hi => ?_)
        · rw [hl] at this
          exact this
        · rw [hl] at hi
          rw [Addr.add_lit, Nat.zero_add]
          by_cases hij : j = i
          · subst hij
            rw [World.cell?_setCell_same _ _ _ hcell, List.getElem_set_self]
          · rw [World.cell?_setCell_other _ _ _ _ (by intro h; injection h with _ h _; exact hij h), HAll.out i hi, List.getElem_set_ne hij]
            simp [List.getD_eq_getElem?_getD, show i < S.size by rw [HSz.out]; exact hi]
      · rw [← HS.out, str_toList] at h
        exact set_other HC.out hx h)
    rcases hsh with hsh | hsh | hsh | hsh | hsh | hsh | hsh | hsh
    · obtain ⟨S', hxor, hback, hnot⟩ := (key0 1 (by decide)).out
      have hxor' : bits .xor .u8 (c.toNat : Int) 1 = ((c ^^^ 1).toNat : Int) := hxor
      have HNot := Lib.hid hnot
      clear hxor hnot key0
      obtain ⟨y, hy⟩ : ∃ y : UInt8, (c ^^^ 1) = y := ⟨_, rfl⟩
      rw [hy] at hxor' hback
      have b6 : Below w4.heap.size w4 (W5.setCell ⟨g, j, none⟩ (.int .u8 (y.toNat : Int))) := bW5.setCell (Nat.le_of_lt HLt4.out) _
      have t6 : (W5.setCell ⟨g, j, none⟩ (.int .u8 (y.toNat : Int))).heap[w4.heap.size]? = some (.cells #[.string ⟨#[97]⟩, .slice a2 q cap2, .string S] 24) := (Below.heap_setCell W5 _ _ _ (by have := HLt4.out; simp only; omega)).trans t11'
      obtain ⟨d0, d1, d2, g0, g1, g2⟩ := cells3 t6
      have b7 : Below w4.heap.size w4 ((W5.setCell ⟨g, j, none⟩ (.int .u8 (y.toNat : Int))).setCell ⟨w4.heap.size, 2, none⟩ (.string S')) := b6.setCell (Nat.le_refl _) _
      have t7 := cell_set2 (v := .string S') t6
      obtain ⟨i0, i1, i2, _⟩ := cells3 t7
      obtain ⟨m0, m1, m2, _⟩ := cells3 (keep T10.out bW5)
      have BW7 := Lib.hid (BW.out.trans (b7.mono BW.out.size))
      clear hy t6 t7 t11'
      go_wp2_with fail
      with_reducible refine (HNot.out _ (HR.out.below BW7.out) (ROW4.out.below b7)).mono ?_
      rintro e w8 ⟨rfl, b8⟩
      obtain ⟨_, j1, _⟩ := cells3 (keep (keep T10.out b7) b8)
      go_wp2
      go_ret
      exact ⟨rfl, BW7.out.trans (b8.mono BW7.out.size)⟩
    · obtain ⟨S', hxor, hback, hnot⟩ := (key0 2 (by decide)).out
      have hxor' : bits .xor .u8 (c.toNat : Int) 2 = ((c ^^^ 2).toNat : Int) := hxor
      have HNot := Lib.hid hnot
      clear hxor hnot key0
      obtain ⟨y, hy⟩ : ∃ y : UInt8, (c ^^^ 2) = y := ⟨_, rfl⟩
      rw [hy] at hxor' hback
      have b6 : Below w4.heap.size w4 (W5.setCell ⟨g, j, none⟩ (.int .u8 (y.toNat : Int))) := bW5.setCell (Nat.le_of_lt HLt4.out) _
      have t6 : (W5.setCell ⟨g, j, none⟩ (.int .u8 (y.toNat : Int))).heap[w4.heap.size]? = some (.cells #[.string ⟨#[97]⟩, .slice a2 q cap2, .string S] 24) := (Below.heap_setCell W5 _ _ _ (by have := HLt4.out; simp only; omega)).trans t11'
      obtain ⟨d0, d1, d2, g0, g1, g2⟩ := cells3 t6
      have b7 : Below w4.heap.size w4 ((W5.setCell ⟨g, j, none⟩ (.int .u8 (y.toNat : Int))).setCell ⟨w4.heap.size, 2, none⟩ (.string S')) := b6.setCell (Nat.le_refl _) _
      have t7 := cell_set2 (v := .string S') t6
      obtain ⟨i0, i1, i2, _⟩ := cells3 t7
      obtain ⟨m0, m1, m2, _⟩ := cells3 (keep T10.out bW5)
      have BW7 := Lib.hid (BW.out.trans (b7.mono BW.out.size))
      clear hy t6 t7 t11'
      go_wp2_with fail
      with_reducible refine (HNot.out _ (HR.out.below BW7.out) (ROW4.out.below b7)).mono ?_
      rintro e w8 ⟨rfl, b8⟩
      obtain ⟨_, j1, _⟩ := cells3 (keep (keep T10.out b7) b8)
      go_wp2
      go_ret
      exact ⟨rfl, BW7.out.trans (b8.mono BW7.out.size)⟩
    · obtain ⟨S', hxor, hback, hnot⟩ := (key0 4 (by decide)).out
      have hxor' : bits .xor .u8 (c.toNat : Int) 4 = ((c ^^^ 4).toNat : Int) := hxor
      have HNot := Lib.hid hnot
      clear hxor hnot key0
      obtain ⟨y, hy⟩ : ∃ y : UInt8, (c ^^^ 4) = y := ⟨_, rfl⟩
      rw [hy] at hxor' hback
      have b6 : Below w4.heap.size w4 (W5.setCell ⟨g, j, none⟩ (.int .u8 (y.toNat : Int))) := bW5.setCell (Nat.le_of_lt HLt4.out) _
      have t6 : (W5.setCell ⟨g, j, none⟩ (.int .u8 (y.toNat : Int))).heap[w4.heap.size]? = some (.cells #[.string ⟨#[97]⟩, .slice a2 q cap2, .string S] 24) := (Below.heap_setCell W5 _ _ _ (by have := HLt4.out; simp only; omega)).trans t11'
      obtain ⟨d0, d1, d2, g0, g1, g2⟩ := cells3 t6
      have b7 : Below w4.heap.size w4 ((W5.setCell ⟨g, j, none⟩ (.int .u8 (y.toNat : Int))).setCell ⟨w4.heap.size, 2, none⟩ (.string S')) := b6.setCell (Nat.le_refl _) _
      have t7 := cell_set2 (v := .string S') t6
      obtain ⟨i0, i1, i2, _⟩ := cells3 t7
      obtain ⟨m0, m1, m2, _⟩ := cells3 (keep T10.out bW5)
      have BW7 := Lib.hid (BW.out.trans (b7.mono BW.out.size))
      clear hy t6 t7 t11'
      go_wp2_with fail
      with_reducible refine (HNot.out _ (HR.out.below BW7.out) (ROW4.out.below b7)).mono ?_
      rintro e w8 ⟨rfl, b8⟩
      obtain ⟨_, j1, _⟩ := cells3 (keep (keep T10.out b7) b8)
      go_wp2
      go_ret
      exact ⟨rfl, BW7.out.trans (b8.mono BW7.out.size)⟩
    · obtain ⟨S', hxor, hback, hnot⟩ := (key0 8 (by decide)).out
      have hxor' : bits .xor .u8 (c.toNat : Int) 8 = ((c ^^^ 8).toNat : Int) := hxor
      have HNot := Lib.hid hnot
      clear hxor hnot key0
      obtain ⟨y, hy⟩ : ∃ y : UInt8, (c ^^^ 8) = y := ⟨_, rfl⟩
      rw [hy] at hxor' hback
      have b6 : Below w4.heap.size w4 (W5.setCell ⟨g, j, none⟩ (.int .u8 (y.toNat : Int))) := bW5.setCell (Nat.le_of_lt HLt4.out) _
      have t6 : (W5.setCell ⟨g, j, none⟩ (.int .u8 (y.toNat : Int))).heap[w4.heap.size]? = some (.cells #[.string ⟨#[97]⟩, .slice a2 q cap2, .string S] 24) := (Below.heap_setCell W5 _ _ _ (by have := HLt4.out; simp only; omega)).trans t11'
      obtain ⟨d0, d1, d2, g0, g1, g2⟩ := cells3 t6
      have b7 : Below w4.heap.size w4 ((W5.setCell ⟨g, j, none⟩ (.int .u8 (y.toNat : Int))).setCell ⟨w4.heap.size, 2, none⟩ (.string S')) := b6.setCell (Nat.le_refl _) _
      have t7 := cell_set2 (v := .string S') t6
      obtain ⟨i0, i1, i2, _⟩ := cells3 t7
      obtain ⟨m0, m1, m2, _⟩ := cells3 (keep T10.out bW5)
      have BW7 := Lib.hid (BW.out.trans (b7.mono BW.out.size))
      clear hy t6 t7 t11'
      go_wp2_with fail
      with_reducible refine (HNot.out _ (HR.out.below BW7.out) (ROW4.out.below b7)).mono ?_
      rintro e w8 ⟨rfl, b8⟩
      obtain ⟨_, j1, _⟩ := cells3 (keep (keep T10.out b7) b8)
      go_wp2
      go_ret
      exact ⟨rfl, BW7.out.trans (b8.mono BW7.out.size)⟩
    · obtain ⟨S', hxor, hback, hnot⟩ := (key0 16 (by decide)).out
      have hxor' : bits .xor .u8 (c.toNat : Int) 16 = ((c ^^^ 16).toNat : Int) := hxor
      have HNot := Lib.hid hnot
      clear hxor hnot key0
      obtain ⟨y, hy⟩ : ∃ y : UInt8, (c ^^^ 16) = y := ⟨_, rfl⟩
      rw [hy] at hxor' hback
      have b6 : Below w4.heap.size w4 (W5.setCell ⟨g, j, none⟩ (.int .u8 (y.toNat : Int))) := bW5.setCell (Nat.le_of_lt HLt4.out) _
      have t6 : (W5.setCell ⟨g, j, none⟩ (.int .u8 (y.toNat : Int))).heap[w4.heap.size]? = some (.cells #[.string ⟨#[97]⟩, .slice a2 q cap2, .string S] 24) := (Below.heap_setCell W5 _ _ _ (by have := HLt4.out; simp only; omega)).trans t11'
      obtain ⟨d0, d1, d2, g0, g1, g2⟩ := cells3 t6
      have b7 : Below w4.heap.size w4 ((W5.setCell ⟨g, j, none⟩ (.int .u8 (y.toNat : Int))).setCell ⟨w4.heap.size, 2, none⟩ (.string S')) := b6.setCell (Nat.le_refl _) _
      have t7 := cell_set2 (v := .string S') t6
      obtain ⟨i0, i1, i2, _⟩ := cells3 t7
      obtain ⟨m0, m1, m2, _⟩ := cells3 (keep T10.out bW5)
      have BW7 := Lib.hid (BW.out.trans (b7.mono BW.out.size))
      clear hy t6 t7 t11'
      go_wp2_with fail
      with_reducible refine (HNot.out _ (HR.out.below BW7.out) (ROW4.out.below b7)).mono ?_
      rintro e w8 ⟨rfl, b8⟩
      obtain ⟨_, j1, _⟩ := cells3 (keep (keep T10.out b7) b8)
      go_wp2
      go_ret
      exact ⟨rfl, BW7.out.trans (b8.mono BW7.out.size)⟩
    · obtain ⟨S', hxor, hback, hnot⟩ := (key0 32 (by decide)).out
      have hxor' : bits .xor .u8 (c.toNat : Int) 32 = ((c ^^^ 32).toNat : Int) := hxor
      have HNot := Lib.hid hnot
      clear hxor hnot key0
      obtain ⟨y, hy⟩ : ∃ y : UInt8, (c ^^^ 32) = y := ⟨_, rfl⟩
      rw [hy] at hxor' hback
      have b6 : Below w4.heap.size w4 (W5.setCell ⟨g, j, none⟩ (.int .u8 (y.toNat : Int))) := bW5.setCell (Nat.le_of_lt HLt4.out) _
      have t6 : (W5.setCell ⟨g, j, none⟩ (.int .u8 (y.toNat : Int))).heap[w4.heap.size]? = some (.cells #[.string ⟨#[97]⟩, .slice a2 q cap2, .string S] 24) := (Below.heap_setCell W5 _ _ _ (by have := HLt4.out; simp only; omega)).trans t11'
      obtain ⟨d0, d1, d2, g0, g1, g2⟩ := cells3 t6
      have b7 : Below w4.heap.size w4 ((W5.setCell ⟨g, j, none⟩ (.int .u8 (y.toNat : Int))).setCell ⟨w4.heap.size, 2, none⟩ (.string S')) := b6.setCell (Nat.le_refl _) _
      have t7 := cell_set2 (v := .string S') t6
      obtain ⟨i0, i1, i2, _⟩ := cells3 t7
      obtain ⟨m0, m1, m2, _⟩ := cells3 (keep T10.out bW5)
      have BW7 := Lib.hid (BW.out.trans (b7.mono BW.out.size))
      clear hy t6 t7 t11'
      go_wp2_with fail
      with_reducible refine (HNot.out _ (HR.out.below BW7.out) (ROW4.out.below b7)).mono ?_
      rintro e w8 ⟨rfl, b8⟩
      obtain ⟨_, j1, _⟩ := cells3 (keep (keep T10.out b7) b8)
      go_wp2
      go_ret
      exact ⟨rfl, BW7.out.trans (b8.mono BW7.out.size)⟩
    · obtain ⟨S', hxor, hback, hnot⟩ := (key0 64 (by decide)).out
      have hxor' : bits .xor .u8 (c.toNat : Int) 64 = ((c ^^^ 64).toNat : Int) := hxor
      have HNot := Lib.hid hnot
      clear hxor hnot key0
      obtain ⟨y, hy⟩ : ∃ y : UInt8, (c ^^^ 64) = y := ⟨_, rfl⟩
      rw [hy] at hxor' hback
      have b6 : Below w4.heap.size w4 (W5.setCell ⟨g, j, none⟩ (.int .u8 (y.toNat : Int))) := bW5.setCell (Nat.le_of_lt HLt4.out) _
      have t6 : (W5.setCell ⟨g, j, none⟩ (.int .u8 (y.toNat : Int))).heap[w4.heap.size]? = some (.cells #[.string ⟨#[97]⟩, .slice a2 q cap2, .string S] 24) := (Below.heap_setCell W5 _ _ _ (by have := HLt4.out; simp only; omega)).trans t11'
      obtain ⟨d0, d1, d2, g0, g1, g2⟩ := cells3 t6
      have b7 : Below w4.heap.size w4 ((W5.setCell ⟨g, j, none⟩ (.int .u8 (y.toNat : Int))).setCell ⟨w4.heap.size, 2, none⟩ (.string S')) := b6.setCell (Nat.le_refl _) _
      have t7 := cell_set2 (v := .string S') t6
      obtain ⟨i0, i1, i2, _⟩ := cells3 t7
      obtain ⟨m0, m1, m2, _⟩ := cells3 (keep T10.out bW5)
      have BW7 := Lib.hid (BW.out.trans (b7.mono BW.out.size))
      clear hy t6 t7 t11'
      go_wp2_with fail
      with_reducible refine (HNot.out _ (HR.out.below BW7.out) (ROW4.out.below b7)).mono ?_
      rintro e w8 ⟨rfl, b8⟩
      obtain ⟨_, j1, _⟩ := cells3 (keep (keep T10.out b7) b8)
      go_wp2
      go_ret
      exact ⟨rfl, BW7.out.trans (b8.mono BW7.out.size)⟩
    · obtain ⟨S', hxor, hback, hnot⟩ := (key0 128 (by decide)).out
      have hxor' : bits .xor .u8 (c.toNat : Int) 128 = ((c ^^^ 128).toNat : Int) := hxor
      have HNot := Lib.hid hnot
      clear hxor hnot key0
      obtain ⟨y, hy⟩ : ∃ y : UInt8, (c ^^^ 128) = y := ⟨_, rfl⟩
      rw [hy] at hxor' hback
      have b6 : Below w4.heap.size w4 (W5.setCell ⟨g, j, none⟩ (.int .u8 (y.toNat : Int))) := bW5.setCell (Nat.le_of_lt HLt4.out) _
      have t6 : (W5.setCell ⟨g, j, none⟩ (.int .u8 (y.toNat : Int))).heap[w4.heap.size]? = some (.cells #[.string ⟨#[97]⟩, .slice a2 q cap2, .string S] 24) := (Below.heap_setCell W5 _ _ _ (by have := HLt4.out; simp only; omega)).trans t11'
      obtain ⟨d0, d1, d2, g0, g1, g2⟩ := cells3 t6
      have b7 : Below w4.heap.size w4 ((W5.setCell ⟨g, j, none⟩ (.int .u8 (y.toNat : Int))).setCell ⟨w4.heap.size, 2, none⟩ (.string S')) := b6.setCell (Nat.le_refl _) _
      have t7 := cell_set2 (v := .string S') t6
      obtain ⟨i0, i1, i2, _⟩ := cells3 t7
      obtain ⟨m0, m1, m2, _⟩ := cells3 (keep T10.out bW5)
      have BW7 := Lib.hid (BW.out.trans (b7.mono BW.out.size))
      clear hy t6 t7 t11'
      go_wp2_with fail
      with_reducible refine (HNot.out _ (HR.out.below BW7.out) (ROW4.out.below b7)).mono ?_
      rintro e w8 ⟨rfl, b8⟩
      obtain ⟨_, j1, _⟩ := cells3 (keep (keep T10.out b7) b8)
      go_wp2
      go_ret
      exact ⟨rfl, BW7.out.trans (b8.mono BW7.out.size)⟩
  · have hS31 : (31 : Int) ≤ (S.size : Int) := by rw [hSz]; decide
    have HNot : Hid (∀ w', Roots w' → Row w' (.slice a2 q cap2) (madeL ls) → Calls Tryd.prog 20 #[.string key, .agg #[.string ⟨#[97]⟩, .slice a2 q cap2, .string (S.extract 0 31)]] w' fun e w'' => e = .returned (.bool false) ∧ Below w'.heap.size w' w'') := Lib.hid fun w' h hr => check_not hks (fun h => by
      rw [← HS.out] at h
      have := congrArg List.length h
      rw [size_list] at this
      rw [size_list, ByteArray.size_extract] at this
      omega) w' h hr
    have bA := BW.out.alloc BW.out.size (.cells #[.string ⟨#[97]⟩, .slice a2 q cap2, .string (S.extract 0 31)] 24)
    have bB : Below w4.heap.size w4 (w4.alloc (.cells #[.string ⟨#[97]⟩, .slice a2 q cap2, .string (S.extract 0 31)] 24)) := (Below.refl _ _).alloc (Nat.le_refl _) _
    go_wp2_with fail
    with_reducible refine (HNot.out _ (HR.out.below bA) (ROW4.out.below bB)).mono ?_
    rintro e w6 ⟨rfl, b6⟩
    obtain ⟨_, j1, _⟩ := cells3 (keep (keep T10.out bB) b6)
    go_wp2
    go_ret
    exact ⟨rfl, bA.trans (b6.mono bA.size)⟩
  · have hS33 : S.size ≤ 1000 := by omega
    have HNot : Hid (∀ w', Roots w' → Row w' (.slice a2 q cap2) (madeL ls) → Calls Tryd.prog 20 #[.string key, .agg #[.string ⟨#[97]⟩, .slice a2 q cap2, .string (S ++ ⟨#[0]⟩)]] w' fun e w'' => e = .returned (.bool false) ∧ Below w'.heap.size w' w'') := Lib.hid fun w' h hr => check_not hks (fun h => by
      rw [← HS.out] at h
      have := congrArg List.length h
      rw [size_list] at this
      rw [size_list, ByteArray.size_append] at this
      have h0 : (⟨#[0]⟩ : ByteArray).size = 1 := rfl
      omega) w' h hr
    have bA := BW.out.alloc BW.out.size (.cells #[.string ⟨#[97]⟩, .slice a2 q cap2, .string (S ++ ⟨#[0]⟩)] 24)
    have bB : Below w4.heap.size w4 (w4.alloc (.cells #[.string ⟨#[97]⟩, .slice a2 q cap2, .string (S ++ ⟨#[0]⟩)] 24)) := (Below.refl _ _).alloc (Nat.le_refl _) _
    go_wp2_with fail
    with_reducible refine (HNot.out _ (HR.out.below bA) (ROW4.out.below bB)).mono ?_
    rintro e w6 ⟨rfl, b6⟩
    obtain ⟨_, j1, _⟩ := cells3 (keep (keep T10.out bB) b6)
    go_wp2
    go_ret
    exact ⟨rfl, bA.trans (b6.mono bA.size)⟩
  · have hS34 : S.size ≤ 1000 := by omega
    have HNot : Hid (∀ w', Roots w' → Row w' (.slice a2 q cap2) (madeL ls) → Calls Tryd.prog 20 #[.string key, .agg #[.string ⟨#[97]⟩, .slice a2 q cap2, .string (⟨#[]⟩)]] w' fun e w'' => e = .returned (.bool false) ∧ Below w'.heap.size w' w'') := Lib.hid fun w' h hr => check_not hks (fun h => by
      rw [← HS.out] at h
      have := congrArg List.length h
      rw [size_list] at this
      have h0 : (⟨#[]⟩ : ByteArray).data.toList.length = 0 := rfl
      omega) w' h hr
    have bA := BW.out.alloc BW.out.size (.cells #[.string ⟨#[97]⟩, .slice a2 q cap2, .string (⟨#[]⟩)] 24)
    have bB : Below w4.heap.size w4 (w4.alloc (.cells #[.string ⟨#[97]⟩, .slice a2 q cap2, .string (⟨#[]⟩)] 24)) := (Below.refl _ _).alloc (Nat.le_refl _) _
    go_wp2_with fail
    with_reducible refine (HNot.out _ (HR.out.below bA) (ROW4.out.below bB)).mono ?_
    rintro e w6 ⟨rfl, b6⟩
    obtain ⟨_, j1, _⟩ := cells3 (keep (keep T10.out bB) b6)
    go_wp2
    go_ret
    exact ⟨rfl, bA.trans (b6.mono bA.size)⟩
open Go.ChangeShapes Go.WideShapes Go.ChangeAt
set_option maxRecDepth 100000 in
theorem lifted (os : Os) (started : os.Started) (H : Type) (enc : TypeId × Value → H) :
    ReturnsInHanded {} Tryd.checked os 4 .any (fun w args => (Rows.macChecksSpec.pre enc Tryd.prog Tryd.f4 Rows.macChecksRow.domain false w args ∧ laidMetH Tryd.prog Rows.macChecksRow.laid w) ∧ sizedMet enc Tryd.prog Tryd.f4 (OpenSpec.ofChange Rows.macChecksSpec) false w args)
      (Rows.macChecksSpec.post enc Tryd.prog Tryd.f4 false true false false) := by
  refine returnsInHanded_of_change_and (C := Tryd.checked) (X := fun w _ => laidMetH Tryd.prog Rows.macChecksRow.laid w) (fun _ _ _ hh h => h.of_heap hh) Ends.own started (by kernel_rfl) Tryd.func4
    (ChangeSpec.witness_shaped (enc := enc) (C := Tryd.checked) (os := os) (X := fun w _ => laidMetH Tryd.prog Rows.macChecksRow.laid w) false (World.laidAll Tryd.prog os Rows.macChecksRow.laid) #[.string ⟨#[]⟩, .slice none 0 0, .int .u8 0, .int .u8 0] 8 (World.laidAll_os _ _ _)
      (World.shaped_of_ZipB (by kernel_rfl) (by kernel_rfl)) (by kernel_rfl) (by kernel_rfl) (by kernel_rfl)
      (by rw [MakeChecks.laidMetH_plain _ _ _ (by kernel_rfl)]; exact laidMet_laidAll _ (by kernel_rfl) (by kernel_rfl))) ?_
  intro W base args ds gs before hval0 hW _ hsz0 hL _
  have hval : ∀ (j : Nat) t v, Tryd.f4.params[j]? = some t → args[j]? = some v → Value.okWide Tryd.prog W .any base t v := hval0
  have hsz : (DataW.weightsEach Tryd.prog (Tryd.f4.params.toList ++ Rows.macChecksSpec.plain.varTypes Tryd.prog) (ds ++ gs)).all (· ≤ reachBytes) = true := hsz0
  have hW' := hW
  obtain ⟨p, q, hA0, hV, rfl, hfz, hnd⟩ := hW
  have hA : DataW.TrodAll enc Tryd.prog W 0 (fun _ => true) true Tryd.f4.params.toList args.toList ds p := hA0
  rw [Tryd.params4] at hA hval hsz
  obtain ⟨v0, vs0, d0, ds0, p0, q0, hargs, rfl, rfl, h0, r0⟩ := trodAll_cons hA
  obtain ⟨v1, vs1, d1, ds1, p1, q1, rfl, rfl, rfl, h1, r1⟩ := trodAll_cons r0
  obtain ⟨v2, vs2, d2, ds2, p2, q2, rfl, rfl, rfl, h2, r2⟩ := trodAll_cons r1
  obtain ⟨v3, vs3, d3, ds3, p3, q3, rfl, rfl, rfl, h3, r3⟩ := trodAll_cons r2
  obtain ⟨rfl, rfl, rfl⟩ := trodAll_nil r3
  obtain rfl : args = #[v0, v1, v2, v3] := by cases args; simp_all
  obtain ⟨rfl, rfl⟩ := trodVars_none hV
  obtain ⟨a0, rfl, rfl, rfl, w0⟩ := Go.ChangeMaps.open_string Tryd.underlying9 (hval 0 9 v0 rfl rfl) h0
  obtain ⟨a1, w1⟩ := Mac.open_cavs (hval 1 22 v1 rfl rfl) h1
  obtain ⟨a2, rfl, rfl, rfl, w2⟩ := open_int Tryd.underlying5 (hval 2 5 v2 rfl rfl) h2
  obtain ⟨a3, rfl, rfl, rfl, w3⟩ := open_int Tryd.underlying5 (hval 3 5 v3 rfl rfl) h3
  have b0 : a0.size ≤ 140737488351232 := by have := sized_string hsz (j := 0) rfl rfl; rw [Array.length_toList] at this; exact this
  have b2 := bounds_u8 w2
  have b3 := bounds_u8 w3
  refine (walk a0 b0 v1 a1 a2 b2.1 b2.2 a3 b3.1 b3.2 W (Sha.roots_met (by kernel_rfl) hL) w1).mono fun e W' ⟨he, hb⟩ => ?_
  subst he
  exact ⟨_, rfl, Ends.law_end Ends.laidOut (by rw [Tryd.params4]; decide +kernel) rfl (by kernel_rfl) Tryd.underlying4 hW' rfl hb⟩

theorem row : Rows.MacChecksSaid :=
  OpenClaim.holds_of_wide 4 Tryd.f4 rfl rfl rfl rfl rfl rfl rfl ⟨rfl, rfl, rfl, rfl, rfl⟩ rfl rfl rfl rfl rfl (by kernel_rfl) Tryd.func4 (by kernel_rfl)
    (of_decide_eq_true (by kernel_rfl)) (by unfold Func.isWrapper; first | (rw [if_pos (by decide +kernel)]; kernel_rfl) | (rw [if_neg (by decide +kernel)]; exact ⟨rfl, rfl⟩))
    (fun os started H enc _ => lifted os started H enc)

/-- The statement: the tied card. -/
theorem proved : Rows.MacChecksCardSaid :=
  Claim7.holds_tied_plain_at .later [] [.data, .data] true Rows.macChecksCard.stood.harness false row (fun _ h => by cases h) (by kernel_rfl) (fun _ h => by cases h) macChecks_row_tie rfl ⟨rfl, rfl⟩ (by kernel_rfl) rfl
    (fun f fn hf hfn => by
      obtain rfl : f = 4 := Option.some.inj ((show Tryd.prog.funcNamed "demesne/demesnelaw07.MacChecks" = some 4 by kernel_rfl).symm.trans hf) |>.symm
      obtain rfl : fn = Tryd.f4 := (Option.some.inj (Tryd.func4.symm.trans hfn)).symm
      exact ⟨by kernel_rfl, fun j t ht => by
        rw [Tryd.params4] at ht
        have hm : t ∈ [9, 22, 5, 5] := by simpa using Array.mem_of_getElem? ht
        have hall : ([9, 22, 5, 5].all fun u => !Tryd.prog.wantsStandIn u) = true := by kernel_rfl
        exact (show Tryd.prog.wantsStandIn t = false by simpa using List.all_eq_true.1 hall t hm)⟩)
    (by kernel_rfl)
end Go.Proofs.YthopegokjbibmaaDoor.macChecks
