/- Proved: demesnelaw08.FrameTells answers true for every texts, place, number and byte, and leaves them as they were, where they are of bulk at most 1048576. No other condition. -/
import Derived.Test.YtlifobfbaiabgaaEnd
import Derived.Test.YtlifobfbaiabgaaFExam
import Derived.Test.YtlifobfbaiabgaaFTold
import Derived.Test.YtlifobfbaiabgaaFByts
import Derived.Test.YtlifobfbaiabgaaFRefAll
import Derived.Test.YtlifobfbaiabgaaFRefPut
import Derived.Test.YtlifobfbaiabgaaBoxes
import Derived.JoinedCond
import Derived.Deep.RegionHeld3
import Derived.Deep.DeepCutAuto
namespace Go.Proofs.Ytlifobfbaiabgaa.frameTells
open Go.RowKit
open Go.Proofs.Ytlifobfbaiabgaa.Frame Go.Proofs.Ytlifobfbaiabgaa.Texts

/-- What Next tells, part by part. -/
def bodyB (s : ByteArray) : Option (Nat × Nat) → ByteArray
  | none => ⟨#[]⟩
  | some x => s.extract x.1 x.2
def nextI : Option (Nat × Nat) → Int
  | none => 0
  | some x => (x.2 : Nat)
theorem nextR_split (s : ByteArray) (o : Option (Nat × Nat)) : nextR s o = .tuple #[.string (bodyB s o), .int .i64 (nextI o), .bool o.isSome] := by cases o <;> rfl
theorem putF_max (l : List UInt8) : (putF l).length ≤ 65544 := by
  by_cases h : l.length ≤ 65536
  · rw [putF_len h]; omega
  · unfold putF; rw [if_pos (by omega)]; simp

set_option maxRecDepth 100000 in
set_option maxHeartbeats 4000000 in
theorem walk (s : ByteArray) (hs : s.size ≤ 1048576) (t : ByteArray) (ht : t.size ≤ 1048576) (at_ : Int) (ha0 : -9223372036854775808 ≤ at_) (ha1 : at_ ≤ 9223372036854775807) (v : Value) (ls : List ByteArray) (_hl : ls.length ≤ 1048576) (hz : ∀ x ∈ ls, x.size ≤ 1048576)
    (k_ : Int) (hk0 : 0 ≤ k_) (hk1 : k_ ≤ 65535) (x_ : Int) (hx0 : 0 ≤ x_) (hx1 : x_ ≤ 255) (w : World) (hrow : SRow w v ls) :
    Calls Try.prog 3 #[.string s, .string t, .int .i64 at_, v, .int .u16 k_, .int .u8 x_] w fun e w' => e = .returned (.bool true) ∧ Below w.heap.size w w' := by
  obtain ⟨kk, rfl⟩ := Int.eq_ofNat_of_zero_le hk0
  obtain ⟨xc, rfl⟩ : ∃ c : UInt8, x_ = (c.toNat : Int) := ⟨x_.toNat.toUInt8, by simp; omega⟩
  obtain ⟨va, vcap, rfl, _⟩ := hrow.slice
  have HRow := Lib.hid hrow
  have HZ := Lib.hid hz
  clear hrow hz
  go_enter Try.func3, Try.ntmps3
  go_wp2_with fail
  refine (examples_any _).mono ?_
  rintro e w1 ⟨rfl, hw1⟩
  have HW1 := Lib.hid hw1
  have HRow1 := Lib.hid (HRow.out.below hw1)
  clear hw1 HRow
  go_wp2
  go_loopw [14, 15] (fun u i wr => ∃ (k : Nat) (A : ByteArray), k ≤ ls.length ∧ k ≤ 8 ∧ i = .int .i64 k ∧ u = .string A ∧ A.size ≤ 65544 * k ∧ Below w1.heap.size w1 wr) (fun _ i _ => 8 - (intOf i).toNat)
  case atStart => exact ⟨0, ⟨#[]⟩, Nat.zero_le _, Nat.zero_le _, rfl, rfl, Nat.zero_le _, Below.refl _ _⟩
  case round =>
    obtain ⟨k, A, hk, hk8, rfl, rfl, hA, hb⟩ := hrel
    by_cases hlt : k < ls.length ∧ k < 8
    · have hltz : (k : Int) < (ls.length : Int) := by omega
      have hltz8 : (k : Int) < 8 := by omega
      have hk0' : (0 : Int) ≤ (k : Int) := by omega
      obtain ⟨g, o, rfl, hg, hcell⟩ := HRow1.out.cells hlt.1
      obtain ⟨x, hx⟩ : ∃ x, ls[k]? = some x := ⟨_, List.getElem?_eq_getElem hlt.1⟩
      have hcx := hcell.below hg hb k x hx
      have hxs := HZ.out x (List.mem_of_getElem? hx)
      have HP := Lib.hid (put_any x (by omega))
      have hps := str_size (putF x.data.toList)
      have hpm := putF_max x.data.toList
      obtain ⟨p, hp⟩ : ∃ p, str (putF x.data.toList) = p := ⟨_, rfl⟩
      rw [hp] at HP hps
      have hpz : p.size ≤ 65544 := by omega
      clear hcell hg hx hxs hps hpm hp
      go_wp2_with fail
      refine (HP.out _).mono ?_
      rintro e w6 ⟨rfl, hb6⟩
      have b6 := hb.trans (hb6.mono hb.size)
      go_wp2
      go_roundw
      case rel => exact ⟨k + 1, A ++ p, by omega, by omega, by go_num, by go_num, by rw [ByteArray.size_append]; omega, b6⟩
      case measure => simp [intOf]; omega
    · have hor : ¬ ((k : Int) < (ls.length : Int)) ∨ ((k : Int) < (ls.length : Int)) ∧ ¬ ((k : Int) < 8) := by omega
      have hAb : A.size ≤ 524352 := by omega
      obtain ⟨w2, G, hcv0, hG, hB2, hw2⟩ := byts_of wr (A ++ t)
      obtain ⟨N, hN⟩ : ∃ N, (A ++ t).size = N := ⟨_, rfl⟩
      have hNt : N = A.size + t.size := by rw [← hN, ByteArray.size_append]
      have hNb : N ≤ 1572928 := by omega
      clear hNt
      have hLl := size_list (A ++ t)
      obtain ⟨L, hL⟩ : ∃ L, (A ++ t).data.toList = L := ⟨_, rfl⟩
      obtain ⟨g, hg⟩ : ∃ g, wr.heap.size = g := ⟨_, rfl⟩
      have hgB : w1.heap.size ≤ g := by rw [← hg]; exact hb.size
      rw [hN] at hcv0 hG hLl
      rw [hL] at hB2 hLl
      rw [hg] at hcv0 hB2
      have hb2 := hb.trans (hw2.mono hb.size)
      have HB2 := Lib.hid hB2
      have HLl := Lib.hid hLl
      clear hlt hB2 hLl hw2 hL hg hb HRow1
      rcases hor with hno | ⟨hyes, hno⟩
      all_goals
        by_cases hN0 : N = 0
        · have hNz : ¬ (0 : Int) < (N : Int) := by omega
          clear hN0
          go_upto_region 12 with fail
          obtain ⟨W3, hW3⟩ : ∃ W, w2 = W := ⟨_, rfl⟩
          have HL3 := HLl
          have BYT := HB2
          have BW3 := Lib.hid hb2
          obtain ⟨L3, hL3⟩ : ∃ L3, L = L3 := ⟨_, rfl⟩
          rw [hL3] at BYT HL3
          rw [hW3] at BYT BW3 ⊢
          clear hb2 HB2 HLl hcv0 hL3 hW3
          have hcv := BYT.out.conv (n := N) (cap := G) HL3.out
          have hVs : (str L3).size = N := by rw [str_size, HL3.out]
          obtain ⟨V, hV⟩ : ∃ V, str L3 = V := ⟨_, rfl⟩
          rw [hV] at hcv hVs
          have hfr := heap_alloc_new W3 (.cells #[.string t, .string A, .string V] 9)
          have BW4 := Lib.hid (BW3.out.alloc BW3.out.size (.cells #[.string t, .string A, .string V] 9))
          obtain ⟨h, hh⟩ : ∃ h, W3.heap.size = h := ⟨_, rfl⟩
          have HFr := Lib.hid hfr
          have HH := Lib.hid hh
          clear hfr hV BYT HL3 hh
          go_wp2
          rw [HH.out]
          go_loopw [79] (fun i wr => ∃ k : Nat, k ≤ 3 ∧ i = .int .i64 k ∧ wr.heap[h]? = some (.cells #[.string t, .string A, .string V] 9) ∧ Below w1.heap.size w1 wr) (fun i _ => 3 - (intOf i).toNat)
          case atStart => exact ⟨0, Nat.zero_le _, rfl, by rw [← HH.out]; exact HFr.out, BW4.out⟩
          case round =>
            clear hcv
            obtain ⟨k3, hk3, rfl, hbl, hb⟩ := hrel
            by_cases h3 : k3 < 3
            · have h3z : (k3 : Int) < 3 := by omega
              have h30 : (0 : Int) ≤ (k3 : Int) := by omega
              obtain ⟨b, hcb, hbs⟩ : ∃ b, wr.cell? ⟨h, k3, none⟩ = some (.string b) ∧ b.size ≤ 1572928 := by
                obtain rfl | rfl | rfl : k3 = 0 ∨ k3 = 1 ∨ k3 = 2 := by omega
                · exact ⟨t, Boxes.cell_at hbl rfl, by omega⟩
                · exact ⟨A, Boxes.cell_at hbl rfl, by omega⟩
                · exact ⟨V, Boxes.cell_at hbl rfl, by omega⟩
              have HBL := Lib.hid hbl
              have N1 := Lib.hid (next_any b (by omega) at_ ha0 ha1)
              have N2 := Lib.hid (refNext_any b (by omega) at_ ha0 ha1)
              rw [nextR_split] at N1 N2
              have A1 := Lib.hid (all_told b (by omega))
              have A2 := Lib.hid (refAll_told b (by omega))
              have htl := told_len b
              obtain ⟨bb, hbb⟩ : ∃ bb, bodyB b (nextF b.data.toList at_) = bb := ⟨_, rfl⟩
              obtain ⟨nn, hnn⟩ : ∃ nn, nextI (nextF b.data.toList at_) = nn := ⟨_, rfl⟩
              obtain ⟨oo, hoo⟩ : ∃ oo, (nextF b.data.toList at_).isSome = oo := ⟨_, rfl⟩
              obtain ⟨ee, hee⟩ : ∃ ee : Nat, (allL b.data.toList).2 = ee := ⟨_, rfl⟩
              obtain ⟨tt, htt⟩ : ∃ tt, told b = tt := ⟨_, rfl⟩
              rw [hbb, hnn, hoo] at N1 N2
              rw [hee, htt] at A1 A2
              rw [htt] at htl
              clear hbb hnn hoo hee htt hbl
              go_wp2_with fail
              refine (N1.out _).mono ?_
              rintro e w5 ⟨rfl, rfl⟩
              go_wp2_with fail
              refine (N2.out _).mono ?_
              rintro e w5 ⟨rfl, hb5⟩
              have b5 := hb.trans (hb5.mono hb.size)
              go_wp2_with fail
              refine (A1.out _).mono ?_
              rintro e w6 ⟨m6, rfl, hm6, hb6⟩
              have b6 := b5.trans (hb6.mono b5.size)
              obtain ⟨om, cm, rfl⟩ := own_form hm6
              have HM6 := Lib.hid hm6
              clear hm6
              go_wp2_with fail
              refine (A2.out _).mono ?_
              rintro e w7 ⟨n7, rfl, hn7, hb7⟩
              have b7 := b6.trans (hb7.mono b6.size)
              obtain ⟨on, cn, rfl⟩ := own_form hn7
              have HS := Lib.hid (same_yes _ _ tt w7 (own_srow (own_kept_below HM6.out hb7)) (own_srow hn7) (by omega))
              have hbx := (hb5.trans ((hb6.trans (hb7.mono hb6.size)).mono hb5.size))
              have HBL7 := Lib.hid (Boxes.keep HBL.out hbx)
              clear hn7 hb5 hb6 hb7 hbx b5 b6 hcb
              go_wp2_with fail
              refine HS.out.mono ?_
              rintro e w8 ⟨rfl, hb8⟩
              have b8 := b7.trans (hb8.mono b7.size)
              have HBL8 := Lib.hid (Boxes.keep HBL7.out hb8)
              go_wp2
              go_roundw
              case rel => exact ⟨k3 + 1, by omega, by go_num, HBL8.out, b8⟩
              case measure => simp [intOf]; omega
            · have h3z : ¬ (k3 : Int) < 3 := by omega
              have S1 := Lib.hid (sum_any s (by omega))
              have S2 := Lib.hid (refSum_any s (by omega))
              have P1 := Lib.hid (put_any s (by omega))
              have P2 := Lib.hid (refPut_any s (by omega))
              obtain ⟨cc, hcc⟩ : ∃ cc, crcL s.data.toList = cc := ⟨_, rfl⟩
              obtain ⟨pp, hpp⟩ : ∃ pp, str (putF s.data.toList) = pp := ⟨_, rfl⟩
              rw [hcc] at S1 S2
              rw [hpp] at P1 P2
              clear hcc hpp
              go_wp2_with fail
              refine (S1.out _).mono ?_
              rintro e w5 ⟨rfl, rfl⟩
              go_wp2_with fail
              refine (S2.out _).mono ?_
              rintro e w5 ⟨rfl, rfl⟩
              go_wp2_with fail
              refine (P1.out _).mono ?_
              rintro e w5 ⟨rfl, hb5⟩
              go_wp2_with fail
              refine (P2.out _).mono ?_
              rintro e w6 ⟨rfl, hb6⟩
              have b5 := hb.trans (hb5.mono hb.size)
              have b6 := b5.trans (hb6.mono b5.size)
              have hbF := grows HW1.out b6
              go_wp2
              go_ret
              exact ⟨rfl, hbF⟩
        · have hNz : (0 : Int) < (N : Int) := by omega
          have hNn : ¬ (N : Int) = 0 := by omega
          obtain ⟨j, hj⟩ : ∃ j, kk % N = j := ⟨_, rfl⟩
          have hjN : j < N := by have := Nat.mod_lt kk (by omega : 0 < N); omega
          have hjz : (kk : Int) % (N : Int) = (j : Int) := by rw [← hj, Int.natCast_emod]
          have hjl : (j : Int) < (N : Int) := by omega
          obtain ⟨d, hd⟩ : ∃ d, L[j]? = some d := ⟨_, List.getElem?_eq_getElem (by rw [HLl.out]; exact hjN)⟩
          obtain ⟨hc, hf⟩ := HB2.out.at hd
          have hxor := xor_int d xc
          have HB3 := Lib.hid (HB2.out.set (d ^^^ xc) (k := j) (by rw [HLl.out]; exact hjN))
          have HB4 := Lib.hid (hb2.setCell (p := (⟨g, j, none⟩ : Addr)) hgB (.int .u8 ((d ^^^ xc).toNat : Int)))
          obtain ⟨y, hy⟩ : ∃ y, d ^^^ xc = y := ⟨_, rfl⟩
          rw [hy] at hxor HB3 HB4
          clear hj hd hy
          go_upto_region 11 with fail
          go_region
          have BYT := Lib.hid (HB3.out.below ((Below.refl _ _).drew))
          have BW3 := Lib.hid HB4.out.drew
          have HL3 : Hid ((L.set j y).length = N) := Lib.hid (by rw [List.length_set]; exact HLl.out)
          obtain ⟨L3, hL3⟩ : ∃ L3, L.set j y = L3 := ⟨_, rfl⟩
          rw [hL3] at BYT HL3
          obtain ⟨W3, hW3⟩ : ∃ W, (w2.setCell ⟨g, j, none⟩ (.int .u8 (y.toNat : Int))).drew = W := ⟨_, rfl⟩
          rw [hW3] at BYT BW3 ⊢
          clear hL3 hW3 HB2 HB3 HB4 hb2 hc hf hxor hjz hjl hjN hcv0 HLl
          have hcv := BYT.out.conv (n := N) (cap := G) HL3.out
          have hVs : (str L3).size = N := by rw [str_size, HL3.out]
          obtain ⟨V, hV⟩ : ∃ V, str L3 = V := ⟨_, rfl⟩
          rw [hV] at hcv hVs
          have hfr := heap_alloc_new W3 (.cells #[.string t, .string A, .string V] 9)
          have BW4 := Lib.hid (BW3.out.alloc BW3.out.size (.cells #[.string t, .string A, .string V] 9))
          obtain ⟨h, hh⟩ : ∃ h, W3.heap.size = h := ⟨_, rfl⟩
          have HFr := Lib.hid hfr
          have HH := Lib.hid hh
          clear hfr hV BYT HL3 hh
          go_wp2
          rw [HH.out]
          go_loopw [79] (fun i wr => ∃ k : Nat, k ≤ 3 ∧ i = .int .i64 k ∧ wr.heap[h]? = some (.cells #[.string t, .string A, .string V] 9) ∧ Below w1.heap.size w1 wr) (fun i _ => 3 - (intOf i).toNat)
          case atStart => exact ⟨0, Nat.zero_le _, rfl, by rw [← HH.out]; exact HFr.out, BW4.out⟩
          case round =>
            clear hcv
            obtain ⟨k3, hk3, rfl, hbl, hb⟩ := hrel
            by_cases h3 : k3 < 3
            · have h3z : (k3 : Int) < 3 := by omega
              have h30 : (0 : Int) ≤ (k3 : Int) := by omega
              obtain ⟨b, hcb, hbs⟩ : ∃ b, wr.cell? ⟨h, k3, none⟩ = some (.string b) ∧ b.size ≤ 1572928 := by
                obtain rfl | rfl | rfl : k3 = 0 ∨ k3 = 1 ∨ k3 = 2 := by omega
                · exact ⟨t, Boxes.cell_at hbl rfl, by omega⟩
                · exact ⟨A, Boxes.cell_at hbl rfl, by omega⟩
                · exact ⟨V, Boxes.cell_at hbl rfl, by omega⟩
              have HBL := Lib.hid hbl
              have N1 := Lib.hid (next_any b (by omega) at_ ha0 ha1)
              have N2 := Lib.hid (refNext_any b (by omega) at_ ha0 ha1)
              rw [nextR_split] at N1 N2
              have A1 := Lib.hid (all_told b (by omega))
              have A2 := Lib.hid (refAll_told b (by omega))
              have htl := told_len b
              obtain ⟨bb, hbb⟩ : ∃ bb, bodyB b (nextF b.data.toList at_) = bb := ⟨_, rfl⟩
              obtain ⟨nn, hnn⟩ : ∃ nn, nextI (nextF b.data.toList at_) = nn := ⟨_, rfl⟩
              obtain ⟨oo, hoo⟩ : ∃ oo, (nextF b.data.toList at_).isSome = oo := ⟨_, rfl⟩
              obtain ⟨ee, hee⟩ : ∃ ee : Nat, (allL b.data.toList).2 = ee := ⟨_, rfl⟩
              obtain ⟨tt, htt⟩ : ∃ tt, told b = tt := ⟨_, rfl⟩
              rw [hbb, hnn, hoo] at N1 N2
              rw [hee, htt] at A1 A2
              rw [htt] at htl
              clear hbb hnn hoo hee htt hbl
              go_wp2_with fail
              refine (N1.out _).mono ?_
              rintro e w5 ⟨rfl, rfl⟩
              go_wp2_with fail
              refine (N2.out _).mono ?_
              rintro e w5 ⟨rfl, hb5⟩
              have b5 := hb.trans (hb5.mono hb.size)
              go_wp2_with fail
              refine (A1.out _).mono ?_
              rintro e w6 ⟨m6, rfl, hm6, hb6⟩
              have b6 := b5.trans (hb6.mono b5.size)
              obtain ⟨om, cm, rfl⟩ := own_form hm6
              have HM6 := Lib.hid hm6
              clear hm6
              go_wp2_with fail
              refine (A2.out _).mono ?_
              rintro e w7 ⟨n7, rfl, hn7, hb7⟩
              have b7 := b6.trans (hb7.mono b6.size)
              obtain ⟨on, cn, rfl⟩ := own_form hn7
              have HS := Lib.hid (same_yes _ _ tt w7 (own_srow (own_kept_below HM6.out hb7)) (own_srow hn7) (by omega))
              have hbx := (hb5.trans ((hb6.trans (hb7.mono hb6.size)).mono hb5.size))
              have HBL7 := Lib.hid (Boxes.keep HBL.out hbx)
              clear hn7 hb5 hb6 hb7 hbx b5 b6 hcb
              go_wp2_with fail
              refine HS.out.mono ?_
              rintro e w8 ⟨rfl, hb8⟩
              have b8 := b7.trans (hb8.mono b7.size)
              have HBL8 := Lib.hid (Boxes.keep HBL7.out hb8)
              go_wp2
              go_roundw
              case rel => exact ⟨k3 + 1, by omega, by go_num, HBL8.out, b8⟩
              case measure => simp [intOf]; omega
            · have h3z : ¬ (k3 : Int) < 3 := by omega
              have S1 := Lib.hid (sum_any s (by omega))
              have S2 := Lib.hid (refSum_any s (by omega))
              have P1 := Lib.hid (put_any s (by omega))
              have P2 := Lib.hid (refPut_any s (by omega))
              obtain ⟨cc, hcc⟩ : ∃ cc, crcL s.data.toList = cc := ⟨_, rfl⟩
              obtain ⟨pp, hpp⟩ : ∃ pp, str (putF s.data.toList) = pp := ⟨_, rfl⟩
              rw [hcc] at S1 S2
              rw [hpp] at P1 P2
              clear hcc hpp
              go_wp2_with fail
              refine (S1.out _).mono ?_
              rintro e w5 ⟨rfl, rfl⟩
              go_wp2_with fail
              refine (S2.out _).mono ?_
              rintro e w5 ⟨rfl, rfl⟩
              go_wp2_with fail
              refine (P1.out _).mono ?_
              rintro e w5 ⟨rfl, hb5⟩
              go_wp2_with fail
              refine (P2.out _).mono ?_
              rintro e w6 ⟨rfl, hb6⟩
              have b5 := hb.trans (hb5.mono hb.size)
              have b6 := b5.trans (hb6.mono b5.size)
              have hbF := grows HW1.out b6
              go_wp2
              go_ret
              exact ⟨rfl, hbF⟩

open Go.ChangeShapes Go.WideShapes Go.ChangeAt
set_option maxRecDepth 100000 in
theorem contract (H : Type) (enc : TypeId × Value → H) (W : World) (base : Nat) (args : Array Value) (ds gs : List (DataW H)) (before : List MemPlace)
    (hval : ∀ (j : Nat) t v, Try.f3.params[j]? = some t → args[j]? = some v → Value.okWide Try.prog W .any base t v)
    (hW : DataW.Whole enc Try.prog Try.f3.params.toList Rows.frameTellsSpec.vars false W args.toList ds gs before) (hk : Rows.uptoSmall H (ds ++ gs) = true) :
    Calls Try.prog 3 args W fun e W' => ∃ v, e = .returned v ∧ Rows.frameTellsSpec.post enc Try.prog Try.f3 false true false false W args v W' := by
  have hW' := hW
  obtain ⟨p, q, hA0, hV, rfl, hfz, hnd⟩ := hW
  have hA : DataW.TrodAll enc Try.prog W 0 (fun _ => true) true Try.f3.params.toList args.toList ds p := hA0
  rw [Try.params3] at hA hval
  obtain ⟨v0, vs0, d0, ds0, p0, q0, hargs, rfl, rfl, h0, r0⟩ := trodAll_cons hA
  obtain ⟨v1, vs1, d1, ds1, p1, q1, rfl, rfl, rfl, h1, r1⟩ := trodAll_cons r0
  obtain ⟨v2, vs2, d2, ds2, p2, q2, rfl, rfl, rfl, h2, r2⟩ := trodAll_cons r1
  obtain ⟨v3, vs3, d3, ds3, p3, q3, rfl, rfl, rfl, h3, r3⟩ := trodAll_cons r2
  obtain ⟨v4, vs4, d4, ds4, p4, q4, rfl, rfl, rfl, h4, r4⟩ := trodAll_cons r3
  obtain ⟨v5, vs5, d5, ds5, p5, q5, rfl, rfl, rfl, h5, r5⟩ := trodAll_cons r4
  obtain ⟨rfl, rfl, rfl⟩ := trodAll_nil r5
  obtain rfl : args = #[v0, v1, v2, v3, v4, v5] := by cases args; simp_all
  obtain ⟨rfl, rfl⟩ := trodVars_none hV
  obtain ⟨a0, rfl, rfl, rfl, _⟩ := Go.ChangeMaps.open_string Try.underlying9 (hval 0 9 v0 rfl rfl) h0
  obtain ⟨a1, rfl, rfl, rfl, _⟩ := Go.ChangeMaps.open_string Try.underlying9 (hval 1 9 v1 rfl rfl) h1
  obtain ⟨a2, rfl, rfl, rfl, w2⟩ := open_int Try.underlying3 (hval 2 3 v2 rfl rfl) h2
  obtain ⟨a3, w3, g3⟩ := Texts.open_texts Try.underlying22 Try.underlying9 (by kernel_rfl) (hval 3 22 v3 rfl rfl) h3
  obtain ⟨l3, m3⟩ := g3.bulk
  obtain ⟨a4, rfl, rfl, rfl, w4⟩ := open_int Try.underlying23 (hval 4 23 v4 rfl rfl) h4
  obtain ⟨a5, rfl, rfl, rfl, w5⟩ := open_int Try.underlying5 (hval 5 5 v5 rfl rfl) h5
  have hB : Rows.uptoBulkAll ([.lit (.string a0.data.toList), .lit (.string a1.data.toList), .lit (.int .i64 a2), d3, .lit (.int .u16 a4), .lit (.int .u8 a5)] ++ []) ≤ 1048576 := of_decide_eq_true hk
  simp only [List.append_nil, Rows.uptoBulkAll, Rows.uptoBulk] at hB
  have z0 : a0.data.toList.length = a0.size := Array.length_toList
  have z1 : a1.data.toList.length = a1.size := Array.length_toList
  have b2 := bounds_i64 w2
  have b4 := bounds_u16 w4
  have b5 := bounds_u8 w5
  refine (walk a0 (by omega) a1 (by omega) a2 b2.1 b2.2 v3 a3 (by omega) (fun x hx => by have := m3 x hx; omega) a4 b4.1 b4.2 a5 b5.1 b5.2 W w3).mono fun e W' ⟨he, hb⟩ => ?_
  subst he
  exact ⟨_, rfl, Ends.law_end Ends.laidOut (by rw [Try.params3]; decide +kernel) rfl (by kernel_rfl) Try.underlying4 hW' rfl hb⟩

set_option maxRecDepth 100000 in
theorem lifted (os : Os) (started : os.Started) (H : Type) (enc : TypeId × Value → H) (F : Stop.Interp) :
    ReturnsInHanded {} Try.checked os 3 .any ((Rows.OpenSpec.upto Rows.frameTellsSpec).pre6 enc Try.prog Try.f3 Rows.frameTellsUptoRow.domain false) (((Rows.OpenSpec.upto Rows.frameTellsSpec).at F).post enc Try.prog Try.f3 false true false false) := by
  refine returnsInHanded_of_cond (C := Try.checked) (s := Rows.OpenSpec.upto Rows.frameTellsSpec) (k := Rows.uptoSmall) rfl Ends.own started (by kernel_rfl) Try.func3
    (OpenSpec.witness (enc := enc) (C := Try.checked) (s := Rows.OpenSpec.upto Rows.frameTellsSpec) (k := Rows.uptoSmall) rfl false ⟨#[], #[.string ⟨#[]⟩, .string ⟨#[]⟩, .int .i64 0, .slice none 0 0, .int .u16 0, .int .u8 0], []⟩ 8 (by kernel_rfl) (by kernel_rfl) (by kernel_rfl)
      (x := ([.lit (.string []), .lit (.string []), .lit (.int .i64 0), .nil, .lit (.int .u16 0), .lit (.int .u8 0)], [], [])) (by kernel_rfl) rfl (by kernel_rfl)) ?_
  intro W base args ds gs before hval hW _ hk _
  exact contract H enc W base args ds gs before hval hW hk

/-- The statement. -/
theorem proved : Rows.FrameTellsUptoSaid :=
  OpenClaim.holds_of_cond 3 Try.f3 rfl rfl rfl rfl rfl rfl rfl ⟨rfl, rfl, rfl, rfl, rfl⟩ rfl rfl rfl rfl rfl (by kernel_rfl) Try.func3 (by kernel_rfl)
    (of_decide_eq_true (by kernel_rfl)) (by unfold Func.isWrapper; first | (rw [if_pos (by decide +kernel)]; kernel_rfl) | (rw [if_neg (by decide +kernel)]; exact ⟨rfl, rfl⟩))
    (fun os started H enc _ F => lifted os started H enc F)
end Go.Proofs.Ytlifobfbaiabgaa.frameTells
