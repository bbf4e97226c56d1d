import Derived.Test.YtbilkeadhflibaaGreatDoorJL3
import Derived.Deep.Cut
import Derived.Test.YtbilkeadhflibaaGreatDoorJL2
import Derived.Deep.RegionHeld3
import Derived.ProofKit
import Derived.OpenShut
import Derived.Below
import Derived.Deep.Matrix
import Derived.WalkKit
import Derived.OrdersHeld
import Derived.Deep.RegionHeld
import Derived.Test.YtbilkeadhflibaaGreatDoorRows
import Derived.Test.YtbilkeadhflibaaGreatDoorTie
import Derived.Test.YtbilkeadhflibaaGreatDoorCards
import Derived.Lib.LaidU8
import Derived.Lib.LaidTab
import Derived.LaidMore
import Derived.SizedLaws
/- What spec.Get answers of any bytes: the job that may be whose form stands there. -/
namespace Go.Proofs.YtbilkeadhflibaaGreatDoor.Job
open Go.RowKit Go.Proofs.YtbilkeadhflibaaGreatDoor.Wire Go.Proofs.YtbilkeadhflibaaGreatDoor.Vec Go.Proofs.YtbilkeadhflibaaGreatDoor.Sel

theorem fair_right {ls : List Tm} (h : rightS ls = true) : Sel.Fair ls := by
  obtain ⟨h4, ht⟩ := rightS_parts h
  refine ⟨by omega, fun t htm => ?_⟩
  obtain ⟨h1, h2, h3, _⟩ := rightT_parts (ht t htm)
  have e1 := (Word.right_free h1).2
  rw [size_list] at e1
  refine ⟨by omega, by omega, fun x hx => ?_⟩
  have e2 := (Word.right_free (h3 x hx)).2
  rw [size_list] at e2
  omega
theorem getS_right {s : ByteArray} {p q : Int} {ls : List Tm} (h : getS s p = some (ls, q)) : rightS ls = true := by
  unfold getS at h
  split at h
  · cases h
  · split at h
    · cases h
    · unfold keepS at h
      split at h
      · cases h
      · split at h
        · rename_i hr
          injection h with h
          subst h
          exact hr
        · cases h
theorem valN_lt (l : List UInt8) (p : Int) (k : Nat) : valN l p k < 18446744073709551616 := by
  unfold valN
  split
  · rename_i x hx
    obtain ⟨u, n⟩ := x
    exact (getV_lt hx).1
  · omega
theorem textV_near {l : List UInt8} {p : Int} {m a n : Nat} (h : Wire.textV l p m = some (a, n)) : a ≤ n ∧ n ≤ l.length ∧ n ≤ a + m := by
  unfold Wire.textV at h
  split at h
  · simp at h
  rename_i x hx
  split at h
  · simp at h
  rename_i hc
  simp only [Option.some.injEq, Prod.mk.injEq] at h
  obtain ⟨rfl, rfl⟩ := h
  omega
theorem fields_parts {s : ByteArray} {p : Int} {x : Jb} {q : Int} (h : fieldsJ s p = some (x, q)) : FairJ x ∧ rightS (terms x) = true := by
  unfold fieldsJ at h
  split at h
  · cases h
  rename_i a n ht
  split at h
  · split at h
    · split at h
      · cases h
      · rename_i ls z hg
        injection h with h
        injection h with h1 h2
        have hr := getS_right hg
        have hn : a ≤ n ∧ n ≤ s.data.toList.length ∧ n ≤ a + 98 := textV_near (m := 98) ht
        subst h1
        refine ⟨⟨?_, fun k hk => ?_, fair_right hr⟩, hr⟩
        · show (s.extract a n).size ≤ _
          rw [ByteArray.size_extract]
          omega
        · rcases lt4 hk with rfl | rfl | rfl | rfl <;> exact valN_lt _ _ _
    · cases h
  · cases h

/-- What Get and Parse answer of what is got or parsed: a job that may be, or nothing. -/
def keepJ {α : Type} : Option (Jb × α) → Option (Jb × α)
  | none => none
  | some x => if checkJ x.1 = 0 then some x else none
theorem getJ_keep (s : ByteArray) (p : Int) : getJ s p = keepJ (fieldsJ s p) := by
  unfold getJ keepJ
  cases fieldsJ s p <;> rfl
def TellsJG (r : Option (Jb × Int)) (w : World) (e : Ending) (w' : World) : Prop := (match r with
  | some x => ∃ v, e = .returned (.tuple #[valJ x.1 v, .int .i64 x.2, .bool true]) ∧ TRow w' v (terms x.1)
  | none => e = .returned (.tuple #[zero9, .int .i64 0, .bool false])) ∧ Below w.heap.size w w'

set_option maxRecDepth 100000 in
set_option maxHeartbeats 4000000 in
theorem get_jb (s : ByteArray) (hs : s.size ≤ 9223372036854775807) (p : Int) (w : World) (hE : Err w) :
    Calls Tryz.prog 13 #[.string s, .int .i64 p] w (TellsJG (getJ s p) w) := by
  rw [getJ_keep]
  have HF := Lib.hid (fun W (h : Below w.heap.size w W) => getFields_any s hs p W (hE.below h))
  have hfp : Hid (∀ x q, fieldsJ s p = some (x, q) → FairJ x ∧ rightS (terms x) = true) := Lib.hid fun x q h => fields_parts h
  obtain ⟨r, hr⟩ : ∃ r, r = fieldsJ s p := ⟨_, rfl⟩
  rw [← hr] at HF hfp ⊢
  clear hr hE
  have h0 : (w.alloc (box9 ⟨#[]⟩ 0 0 0 0 0 0 0 (.slice none 0 0))).heap[w.heap.size]? = some (box9 ⟨#[]⟩ 0 0 0 0 0 0 0 (.slice none 0 0)) := heap_alloc_new _ _
  have hz0 : w.heap.size < (w.alloc (box9 ⟨#[]⟩ 0 0 0 0 0 0 0 (.slice none 0 0))).heap.size := by simp
  unfold box9 at h0 hz0
  go_enter Tryz.func13, Tryz.ntmps13
  go_wp2_with fail
  refine (HF.out _ (grew w _)).mono ?_
  rintro e w1 ⟨hres, hb1⟩
  have hT : w1.heap[w.heap.size]? = some (box9 ⟨#[]⟩ 0 0 0 0 0 0 0 (.slice none 0 0)) := (hb1.block _ hz0).trans h0
  have HB1 := Lib.hid (grows (grew w _) hb1)
  clear hb1 h0 hz0
  cases r with
  | none =>
    obtain ⟨q, b0, b1, b2, b3, n, m, k, sa, sn, sc, z, rfl⟩ := hres
    obtain ⟨⟨c0, c1, c2, c3, c4, c5, c6, c7, c8⟩, f0, f1, f2, f3, f4, f5, f6, f7, f8⟩ := cells9 hT
    have HT2 := Lib.hid (set9_box hT q b0 b1 b2 b3 n m k (.slice sa sn sc))
    have HB2 := Lib.hid (set9_below (T := w.heap.size) (p := q) (a0 := b0) (a1 := b1) (a2 := b2) (a3 := b3) (n := n) (m := m) (k := k) (s := .slice sa sn sc) HB1.out (Nat.le_refl _))
    clear hT HB1
    unfold val9
    go_upto_region 2 with fail
    obtain ⟨W2, hW2⟩ : ∃ W2, W2 = set9 w.heap.size q b0 b1 b2 b3 n m k (.slice sa sn sc) w1 := ⟨_, rfl⟩
    have hT2 := HT2.out
    have hB2 := HB2.out
    rw [← hW2] at hT2 hB2
    unfold set9 at hW2
    rw [← hW2]
    clear hW2 HT2 HB2 c0 c1 c2 c3 c4 c5 c6 c7 c8 f0 f1 f2 f3 f4 f5 f6 f7 f8
    obtain ⟨⟨c0, c1, c2, c3, c4, c5, c6, c7, c8⟩, f0, f1, f2, f3, f4, f5, f6, f7, f8⟩ := cells9 hT2
    have HT3 := Lib.hid (set9_box hT2 ⟨#[]⟩ 0 0 0 0 0 0 0 (.slice none 0 0))
    have HB3 := Lib.hid (set9_below (T := w.heap.size) (p := ⟨#[]⟩) (a0 := 0) (a1 := 0) (a2 := 0) (a3 := 0) (n := 0) (m := 0) (k := 0) (s := .slice none 0 0) hB2 (Nat.le_refl _))
    clear hT2 hB2
    go_wp2
    obtain ⟨⟨d0, d1, d2, d3, d4, d5, d6, d7, d8⟩, _⟩ := cells9 HT3.out
    have hB := HB3.out
    unfold set9 at d0 d1 d2 d3 d4 d5 d6 d7 d8 hB
    refine bodyPost_ret (v := .tuple #[.agg #[.string ⟨#[]⟩, .int .u64 0, .int .u64 0, .int .u64 0, .int .u64 0, .int .i64 0, .int .i64 0, .int .i64 0, .slice none 0 0], .int .i64 0, .bool false]) (by simp [results, Tryz.results13, go_sem, d0, d1, d2, d3, d4, d5, d6, d7, d8]) rfl ?_
    exact ⟨rfl, hB⟩
  | some y =>
    obtain ⟨x, z⟩ := y
    obtain ⟨v, rfl, hrow⟩ := hres
    dsimp only at hrow ⊢
    obtain ⟨sa, sc, rfl, _, _⟩ := hrow.slice
    have HK : Hid ((checkJ x = 0 → keepJ (some (x, z)) = some (x, z)) ∧ (checkJ x ≠ 0 → keepJ (some (x, z)) = none)) := Lib.hid ⟨fun h => if_pos h, fun h => if_neg h⟩
    obtain ⟨hfx, hrt⟩ := hfp.out x z rfl
    have HRt := Lib.hid hrt
    clear hrt
    have HC := Lib.hid (fun W (h : TRow W (.slice sa (terms x).length sc) (terms x)) => check_any x (.slice sa (terms x).length sc) W hfx h)
    rw [valJ_eq] at HC ⊢
    have HV : Hid (valJ x (.slice sa (terms x).length sc) = val9 (path x) (am (dem x) 0) (am (dem x) 1) (am (dem x) 2) (am (dem x) 3) (cou x) (pri x) (tik x) (.slice sa (terms x).length sc)) := Lib.hid rfl
    obtain ⟨c, hc⟩ : ∃ c, c = checkJ x := ⟨_, rfl⟩
    rw [← hc] at HC HK
    obtain ⟨q, hq⟩ : ∃ q, q = path x := ⟨_, rfl⟩
    obtain ⟨b0, e0⟩ : ∃ b : Int, b = am (dem x) 0 := ⟨_, rfl⟩
    obtain ⟨b1, e1⟩ : ∃ b : Int, b = am (dem x) 1 := ⟨_, rfl⟩
    obtain ⟨b2, e2⟩ : ∃ b : Int, b = am (dem x) 2 := ⟨_, rfl⟩
    obtain ⟨b3, e3⟩ : ∃ b : Int, b = am (dem x) 3 := ⟨_, rfl⟩
    obtain ⟨n, en⟩ : ∃ n, n = cou x := ⟨_, rfl⟩
    obtain ⟨m, em⟩ : ∃ n, n = pri x := ⟨_, rfl⟩
    obtain ⟨k, ek⟩ : ∃ n, n = tik x := ⟨_, rfl⟩
    obtain ⟨sn, esn⟩ : ∃ n, n = (terms x).length := ⟨_, rfl⟩
    rw [← esn] at hrow HC HV ⊢
    rw [← hq, ← e0, ← e1, ← e2, ← e3, ← en, ← em, ← ek] at HC HV ⊢
    clear hq e0 e1 e2 e3 en em ek esn hfx hfp hc
    obtain ⟨⟨c0, c1, c2, c3, c4, c5, c6, c7, c8⟩, f0, f1, f2, f3, f4, f5, f6, f7, f8⟩ := cells9 hT
    have HT1 := Lib.hid hT
    have HRow := Lib.hid hrow
    clear hT hrow
    unfold val9
    unfold val9 at HC
    go_upto_region 2 with fail
    obtain ⟨W2, hW2⟩ : ∃ W2, W2 = set9 w.heap.size q b0 b1 b2 b3 n m k (.slice sa sn sc) w1 := ⟨_, rfl⟩
    have hT2 : W2.heap[w.heap.size]? = some (box9 q b0 b1 b2 b3 n m k (.slice sa sn sc)) := by rw [hW2]; exact set9_box HT1.out q b0 b1 b2 b3 n m k (.slice sa sn sc)
    have hB2 : Below w.heap.size w W2 := by rw [hW2]; exact set9_below HB1.out (Nat.le_refl _)
    have hR2 : TRow W2 (.slice sa sn sc) (terms x) := by
      rw [hW2]
      exact fresh_kept HRow.out HRt.out HT1.out q b0 b1 b2 b3 n m k sa sn sc
    unfold set9 at hW2
    rw [← hW2]
    clear hW2 HT1 HB1 HRow c0 c1 c2 c3 c4 c5 c6 c7 c8 f0 f1 f2 f3 f4 f5 f6 f7 f8
    obtain ⟨⟨c0, c1, c2, c3, c4, c5, c6, c7, c8⟩, f0, f1, f2, f3, f4, f5, f6, f7, f8⟩ := cells9 hT2
    have HT2 := Lib.hid hT2
    have HB2 := Lib.hid hB2
    have HR2 := Lib.hid hR2
    clear hT2 hB2 hR2
    go_wp2_with fail
    refine (HC.out _ HR2.out).mono ?_
    rintro e w3 ⟨rfl, hb3⟩
    have hT3 : w3.heap[w.heap.size]? = some (box9 q b0 b1 b2 b3 n m k (.slice sa sn sc)) := (hb3.block _ (Array.getElem?_eq_some_iff.1 HT2.out).1).trans HT2.out
    have HB3 := Lib.hid (grows HB2.out hb3)
    have HR3 := Lib.hid (HR2.out.below hb3)
    clear hb3 HT2 HB2 HR2 c0 c1 c2 c3 c4 c5 c6 c7 c8 f0 f1 f2 f3 f4 f5 f6 f7 f8
    obtain ⟨⟨c0, c1, c2, c3, c4, c5, c6, c7, c8⟩, f0, f1, f2, f3, f4, f5, f6, f7, f8⟩ := cells9 hT3
    by_cases hc0 : c = 0
    · subst hc0
      have HT4 := Lib.hid (set9_box hT3 q b0 b1 b2 b3 n m k (.slice sa sn sc))
      have HB4 := Lib.hid (set9_below (T := w.heap.size) (p := q) (a0 := b0) (a1 := b1) (a2 := b2) (a3 := b3) (n := n) (m := m) (k := k) (s := .slice sa sn sc) HB3.out (Nat.le_refl _))
      have HR4 := Lib.hid (store_kept HR3.out hT3 b0 b1 b2 b3 n m k sa sn sc)
      clear hT3 HB3 HR3
      go_wp2
      obtain ⟨⟨d0, d1, d2, d3, d4, d5, d6, d7, d8⟩, _⟩ := cells9 HT4.out
      have hB := HB4.out
      have hR := HR4.out
      unfold set9 at d0 d1 d2 d3 d4 d5 d6 d7 d8 hB hR
      refine bodyPost_ret (v := .tuple #[.agg #[.string q, .int .u64 b0, .int .u64 b1, .int .u64 b2, .int .u64 b3, .int .i64 n, .int .i64 m, .int .i64 k, .slice sa sn sc], .int .i64 z, .bool true]) (by simp [results, Tryz.results13, go_sem, d0, d1, d2, d3, d4, d5, d6, d7, d8]) rfl ?_
      rw [HK.out.1 trivial]
      refine ⟨⟨.slice sa sn sc, ?_, hR⟩, hB⟩
      dsimp only
      rw [HV.out]
      rfl
    · have hne : (c != 0) = true := by simpa using hc0
      have hne' : (c == 0) = false := by simpa using hc0
      have HT4 := Lib.hid (set9_box hT3 ⟨#[]⟩ 0 0 0 0 0 0 0 (.slice none 0 0))
      have HB4 := Lib.hid (set9_below (T := w.heap.size) (p := ⟨#[]⟩) (a0 := 0) (a1 := 0) (a2 := 0) (a3 := 0) (n := 0) (m := 0) (k := 0) (s := .slice none 0 0) HB3.out (Nat.le_refl _))
      clear hT3 HB3 HR3
      go_wp2
      obtain ⟨⟨d0, d1, d2, d3, d4, d5, d6, d7, d8⟩, _⟩ := cells9 HT4.out
      have hB := HB4.out
      unfold set9 at d0 d1 d2 d3 d4 d5 d6 d7 d8 hB
      refine bodyPost_ret (v := .tuple #[.agg #[.string ⟨#[]⟩, .int .u64 0, .int .u64 0, .int .u64 0, .int .u64 0, .int .i64 0, .int .i64 0, .int .i64 0, .slice none 0 0], .int .i64 0, .bool false]) (by simp [results, Tryz.results13, go_sem, d0, d1, d2, d3, d4, d5, d6, d7, d8]) rfl ?_
      rw [HK.out.2 hc0]
      exact ⟨rfl, hB⟩
end Go.Proofs.YtbilkeadhflibaaGreatDoor.Job

/- What is parsed of words: plain functions, and the walks of the pieces (parseNumber, vec.Parse by value, the function that Parse hands in). -/
namespace Go.Proofs.YtbilkeadhflibaaGreatDoor.Job
open Go.RowKit Go.Proofs.YtbilkeadhflibaaGreatDoor.Wire Go.Proofs.YtbilkeadhflibaaGreatDoor.Vec Go.Proofs.YtbilkeadhflibaaGreatDoor.Sel Go.Proofs.YtbilkeadhflibaaGreatDoor.Texts Go.Proofs.YtbilkeadhflibaaGreatDoor.Forms

/-- The amounts whose Text that is. -/
def vecP (s : ByteArray) : Option V4 := match cuts 58 s.data.toList with
  | [a, b, c, d] => match numL (str a), numL (str b), numL (str c), numL (str d) with
    | some x, some y, some z, some t => some (x, y, z, t)
    | _, _, _, _ => none
  | _ => none
theorem numL_str {a : List UInt8} {u : Nat} (h : numL (str a) = some u) : Lib.decDigits u = a := by
  have := (numL_some h).1
  have h2 : (dec u).data.toList = (str a).data.toList := by rw [this]
  exact h2
theorem vecP_text {v : V4} (hv : fair4 v) : vecP (textV v) = some v := by
  unfold vecP
  rw [cuts_text]
  have h0 := numL_dec (hv 0 (by omega))
  have h1 := numL_dec (hv 1 (by omega))
  have h2 := numL_dec (hv 2 (by omega))
  have h3 := numL_dec (hv 3 (by omega))
  unfold dec at h0 h1 h2 h3
  simp only [h0, h1, h2, h3]
  rfl
theorem vecP_some {s : ByteArray} {v : V4} (h : vecP s = some v) : fair4 v ∧ textV v = s := by
  unfold vecP at h
  split at h
  · rename_i a b c d hc
    split at h
    · rename_i x y z t hx hy hz ht
      injection h with h
      subst h
      refine ⟨fun k hk => ?_, list_eq_of_toList ?_⟩
      · rcases lt4 hk with rfl | rfl | rfl | rfl
        · exact numL_lt hx
        · exact numL_lt hy
        · exact numL_lt hz
        · exact numL_lt ht
      · rw [ByteArray.toList_eq, ByteArray.toList_eq, textV_list]
        show glueC 58 [Lib.decDigits x, Lib.decDigits y, Lib.decDigits z, Lib.decDigits t] = _
        rw [numL_str hx, numL_str hy, numL_str hz, numL_str ht, ← hc, glue_cuts]
    · cases h
  · cases h
theorem parse_vecP (s : ByteArray) (hs : s.size ≤ 281474976710656) (w : World) (hR : Roots w) :
    Calls Tryz.prog 80 #[.string s] w fun e w' => e = .returned (.tuple #[vecV ((vecP s).getD (0, 0, 0, 0)), .bool (vecP s).isSome]) ∧ Below w.heap.size w w' := by
  refine (parse_vec s hs w hR).mono ?_
  rintro e w' ⟨⟨v, hv, rfl, rfl⟩ | ⟨hn, rfl⟩, hb⟩
  · rw [vecP_text hv]
    exact ⟨rfl, hb⟩
  · have : vecP s = none := by
      cases h : vecP s with
      | none => rfl
      | some v =>
        obtain ⟨h1, h2⟩ := vecP_some h
        exact absurd h2 (hn v h1)
    rw [this]
    exact ⟨rfl, hb⟩

set_option maxRecDepth 100000 in
set_option maxHeartbeats 2000000 in
theorem parseNumber_any (s : ByteArray) (hs : s.size ≤ 281474976710656) (w : World) (hR : Roots w) :
    Calls Tryz.prog 82 #[.string s] w fun e w' => e = .returned (.tuple #[.int .u64 ((numL s).getD 0), .bool (numL s).isSome]) ∧ Below w.heap.size w w' := by
  have HP := Lib.hid (parse_told s hs w hR)
  have HR := Lib.hid hR
  cases hr : readU s with
  | none =>
    have hn : numL s = none := by unfold numL; rw [hr]
    rw [hn]
    have HN : Hid ((readU s).isSome = false) := Lib.hid (by rw [hr]; rfl)
    obtain ⟨u, hu⟩ : ∃ u : Nat, u = valU s := ⟨_, rfl⟩
    unfold ToldU at HP
    rw [← hu] at HP
    clear hr hn hu hR
    go_enter Tryz.func82, Tryz.ntmps82
    go_wp2_with fail
    refine HP.out.mono ?_
    rintro e w1 ⟨⟨ev, rfl, ⟨rfl, hx⟩ | ⟨⟨T, p, rfl⟩, _⟩⟩, hb⟩
    · rw [HN.out] at hx
      cases hx
    · go_wp2
      go_ret2
      exact ⟨rfl, hb⟩
  | some u =>
    have hv := valU_of hr
    have hlt := readU_lt hr
    have HN : Hid ((readU s).isSome = true) := Lib.hid (by rw [hr]; rfl)
    have HF := Lib.hid (fun W (h : Tab W) => format_any u hlt W h)
    have HE : Hid ((dec u = s → numL s = some u) ∧ (dec u ≠ s → numL s = none)) := Lib.hid ⟨fun h => by unfold numL; rw [hr]; exact if_pos h, fun h => by unfold numL; rw [hr]; exact if_neg h⟩
    unfold ToldU at HP
    rw [hv] at HP
    obtain ⟨d, hd⟩ : ∃ d, d = dec u := ⟨_, rfl⟩
    rw [← hd] at HF HE
    clear hr hv hd hlt hR
    go_enter Tryz.func82, Tryz.ntmps82
    go_wp2_with fail
    refine HP.out.mono ?_
    rintro e w1 ⟨⟨ev, rfl, ⟨rfl, _⟩ | ⟨⟨T, p, rfl⟩, hx⟩⟩, hb⟩
    · have hT := (HR.out.below hb).tab
      go_wp2_with fail
      refine (HF.out _ hT).mono ?_
      rintro e w2 ⟨rfl, hb2⟩
      have hb' := grows hb hb2
      clear hb hb2 hT
      rcases Bool.eq_false_or_eq_true (d.toList == s.toList) with heq | heq
      · have heq' : (d.toList != s.toList) = false := by simp only [bne, heq]; rfl
        go_wp2
        go_ret2
        have h := HE.out.1 (list_eq_of_toList (eq_of_beq heq))
        exact ⟨by rw [h]; rfl, hb'⟩
      · have heq' : (d.toList != s.toList) = true := by simp only [bne, heq]; rfl
        go_wp2
        go_ret2
        have h := HE.out.2 (fun h => by rw [h] at heq; simp at heq)
        exact ⟨by rw [h]; rfl, hb'⟩
    · rw [HN.out] at hx
      cases hx

/-- The fields that words show, whether the job may be or not. -/
def numW (ws : List ByteArray) (j : Nat) : Nat := (numL (ws.getD (2 + j) ⟨#[]⟩)).getD 0
def okW (ws : List ByteArray) (j : Nat) : Bool := (numL (ws.getD (2 + j) ⟨#[]⟩)).isSome
def parseF (ws : List ByteArray) : Option Jb :=
  if ws.length = 6 then (match vecP (ws.getD 1 ⟨#[]⟩) with
    | none => none
    | some v => if (good (numW ws) (okW ws) 0 && (good (numW ws) (okW ws) 1 && good (numW ws) (okW ws) 2)) = true then (match parseS (ws.getD 5 ⟨#[]⟩) with
      | none => none
      | some ls => some (ws.getD 0 ⟨#[]⟩, v, ((numW ws 0 : Int), (numW ws 1 : Int), (numW ws 2 : Int)), ls)) else none)
  else none
/-- Parse: P11.3. -/
def parseJ (ws : List ByteArray) : Option Jb := match parseF ws with
  | none => none
  | some x => if checkJ x = 0 then some x else none

structure Laid2 (w0 : World) (sl : Value) (p : ByteArray) (a0 a1 a2 a3 n m k : Int) (v : Value) (w : World) : Prop where
  b : Below w0.heap.size w0 w
  z : w0.heap.size + 2 ≤ w.heap.size
  S : w.heap[w0.heap.size]? = some (.cells #[sl] 28)
  T : w.heap[w0.heap.size + 1]? = some (box9 p a0 a1 a2 a3 n m k v)
theorem Laid2.later {w0 : World} {sl v : Value} {p : ByteArray} {a0 a1 a2 a3 n m k : Int} {w w' : World} (h : Laid2 w0 sl p a0 a1 a2 a3 n m k v w) (hb : Below (w0.heap.size + 2) w w') : Laid2 w0 sl p a0 a1 a2 a3 n m k v w' :=
  ⟨h.b.trans (hb.mono (by omega)), Nat.le_trans h.z hb.size, (hb.block _ (by omega)).trans h.S, (hb.block _ (by omega)).trans h.T⟩
theorem Laid2.more {w0 : World} {sl v : Value} {p : ByteArray} {a0 a1 a2 a3 n m k : Int} {w w' : World} (h : Laid2 w0 sl p a0 a1 a2 a3 n m k v w) (hb : Below w.heap.size w w') : Laid2 w0 sl p a0 a1 a2 a3 n m k v w' := h.later (hb.mono h.z)
theorem Laid2.setP {w0 : World} {sl v : Value} {p : ByteArray} {a0 a1 a2 a3 n m k : Int} {w : World} (h : Laid2 w0 sl p a0 a1 a2 a3 n m k v w) (r : ByteArray) : Laid2 w0 sl r a0 a1 a2 a3 n m k v (w.setCell ⟨w0.heap.size + 1, 0, none⟩ (.string r)) :=
  ⟨h.b.setCell (by simp) _, by simpa using h.z, (heap_setCell_other _ _ _ _ (by simp)).trans h.S, setP_box h.T r⟩
theorem Laid2.setS {w0 : World} {sl v : Value} {p : ByteArray} {a0 a1 a2 a3 n m k : Int} {w : World} (h : Laid2 w0 sl p a0 a1 a2 a3 n m k v w) (u : Value) : Laid2 w0 sl p a0 a1 a2 a3 n m k u (w.setCell ⟨w0.heap.size + 1, 8, none⟩ u) :=
  ⟨h.b.setCell (by simp) _, by simpa using h.z, (heap_setCell_other _ _ _ _ (by simp)).trans h.S, setS_box h.T u⟩
theorem Laid2.setD {w0 : World} {sl v : Value} {p : ByteArray} {a0 a1 a2 a3 n m k : Int} {w : World} (h : Laid2 w0 sl p a0 a1 a2 a3 n m k v w) (b0 b1 b2 b3 : Int) : Laid2 w0 sl p b0 b1 b2 b3 n m k v (Job.setD (w0.heap.size + 1) b0 b1 b2 b3 w) :=
  ⟨setD_below h.b (by omega), by rw [setD_size]; exact h.z, (setD_other (by omega) _ _ _ _).trans h.S, setD_box h.T _ _ _ _⟩
theorem Laid2.set9 {w0 : World} {sl v : Value} {p : ByteArray} {a0 a1 a2 a3 n m k : Int} {w : World} (h : Laid2 w0 sl p a0 a1 a2 a3 n m k v w) (p' : ByteArray) (b0 b1 b2 b3 n' m' k' : Int) (u : Value) : Laid2 w0 sl p' b0 b1 b2 b3 n' m' k' u (Job.set9 (w0.heap.size + 1) p' b0 b1 b2 b3 n' m' k' u w) :=
  ⟨set9_below h.b (by omega), by rw [set9_size]; exact h.z, (set9_other (by omega) _ _ _ _ _ _ _ _ _).trans h.S, set9_box h.T _ _ _ _ _ _ _ _ _⟩

set_option maxRecDepth 100000 in
set_option maxHeartbeats 2000000 in
theorem parseOne (S g o cap : Nat) (j : Nat) (hj : j < 3) (x : ByteArray) (u : Nat) (ok : Bool) (wr : World) (hS : wr.heap[S]? = some (.cells #[.slice (some ⟨g, o, none⟩) 6 cap] 28))
    (hx : wr.cell? ⟨g, o + (2 + j), none⟩ = some (.string x))
    (st : Calls Tryz.prog 82 #[.string x] wr fun e w' => e = .returned (.tuple #[.int .u64 u, .bool ok]) ∧ Below wr.heap.size wr w') :
    Calls Tryz.prog 81 #[.int .i64 j, .pointer (some ⟨S, 0, none⟩)] wr fun e w' => e = .returned (.tuple #[.int .u64 u, .bool ok]) ∧ Below wr.heap.size wr w' := by
  have cS := cell_at (i := 0) (v := .slice (some ⟨g, o, none⟩) 6 cap) hS rfl
  have HST := Lib.hid st
  clear st hS
  have : j = 0 ∨ j = 1 ∨ j = 2 := by omega
  rcases this with rfl | rfl | rfl
  · go_enter Tryz.func81, Tryz.ntmps81
    go_wp2_with fail
    refine HST.out.mono ?_
    rintro e w1 ⟨rfl, hb⟩
    go_wp2
    go_ret2
    exact ⟨rfl, hb⟩
  · go_enter Tryz.func81, Tryz.ntmps81
    go_wp2_with fail
    refine HST.out.mono ?_
    rintro e w1 ⟨rfl, hb⟩
    go_wp2
    go_ret2
    exact ⟨rfl, hb⟩
  · go_enter Tryz.func81, Tryz.ntmps81
    go_wp2_with fail
    refine HST.out.mono ?_
    rintro e w1 ⟨rfl, hb⟩
    go_wp2
    go_ret2
    exact ⟨rfl, hb⟩
theorem parse_fair3 {w0 : World} {g o cap : Nat} {ws : List ByteArray} (h6 : ws.length = 6) (hg : g < w0.heap.size) (hcell : SCells w0 g o ws) (hws : ∀ x ∈ ws, x.size ≤ 281474976710656) (hR : Roots w0)
    {p : ByteArray} {a0 a1 a2 a3 n m k : Int} {v : Value} {H : Nat} :
    Fair3 H 81 #[.pointer (some ⟨w0.heap.size, 0, none⟩)] (numW ws) (okW ws) (fun _ => Laid2 w0 (.slice (some ⟨g, o, none⟩) 6 cap) p a0 a1 a2 a3 n m k v) := by
  intro j hj wr hz hL
  have hlt : 2 + j < ws.length := by omega
  have hx : ws[2 + j]? = some (ws.getD (2 + j) ⟨#[]⟩) := by rw [List.getD_eq_getElem?_getD, List.getElem?_eq_getElem hlt]; rfl
  have hc : wr.cell? ⟨g, o + (2 + j), none⟩ = some (.string (ws.getD (2 + j) ⟨#[]⟩)) := (hL.b.cell (p := ⟨g, o + (2 + j), none⟩) hg).trans (hcell _ _ hx)
  refine (parseOne w0.heap.size g o cap j hj (ws.getD (2 + j) ⟨#[]⟩) (numW ws j) (okW ws j) wr hL.S hc (parseNumber_any _ (hws _ (List.mem_of_getElem? hx)) wr (hR.below hL.b))).mono ?_
  rintro e w' ⟨rfl, hb⟩
  exact ⟨rfl, Keeps.of_below hb, hL.more hb⟩
end Go.Proofs.YtbilkeadhflibaaGreatDoor.Job

/- What spec.Parse answers of any words (written by genjparse.py). -/
namespace Go.Proofs.YtbilkeadhflibaaGreatDoor.Job
open Go.RowKit Go.Proofs.YtbilkeadhflibaaGreatDoor.Wire Go.Proofs.YtbilkeadhflibaaGreatDoor.Vec Go.Proofs.YtbilkeadhflibaaGreatDoor.Sel Go.Proofs.YtbilkeadhflibaaGreatDoor.Texts

def TellsP (r : Option Jb) (w : World) (e : Ending) (w' : World) : Prop := (match r with
  | some x => ∃ v, e = .returned (.tuple #[valJ x v, .bool true]) ∧ TRow w' v (terms x)
  | none => ∃ p a0 a1 a2 a3 n m k sa sn sc, e = .returned (.tuple #[val9 p a0 a1 a2 a3 n m k (.slice sa sn sc), .bool false])) ∧ Below w.heap.size w w'

set_option maxRecDepth 100000 in
set_option maxHeartbeats 8000000 in
theorem parseFields_any (ws : List ByteArray) (v : Value) (w : World) (hv : SRow w v ws) (hws : ∀ x ∈ ws, x.size ≤ 281474976710656) (hR : Roots w) :
    Calls Tryz.prog 38 #[v] w (TellsP (parseF ws) w) := by
  obtain ⟨r, hr⟩ : ∃ r, r = parseF ws := ⟨_, rfl⟩
  rw [← hr]
  by_cases h6 : ws.length = 6
  · obtain ⟨_, g, o, cap, rfl, hg, hcap, hmax, hcell⟩ : ws ≠ [] ∧ ∃ g o cap, v = .slice (some ⟨g, o, none⟩) ws.length cap ∧ g < w.heap.size ∧ ws.length ≤ cap ∧ cap ≤ maxLen ∧ SCells w g o ws := by
      rcases hv with ⟨rfl, _⟩ | h
      · simp at h6
      · exact h
    rw [h6] at hcap ⊢
    have hcl : ∀ (args : Array Value) (w : World), (callFunc 81 args).run Tryz.prog w = .ok (.enter 81 args) w := fun _ _ => by kernel_rfl
    have hat : ∀ j, j < 6 → ws[j]? = some (ws.getD j ⟨#[]⟩) := fun j hj => by rw [List.getD_eq_getElem?_getD, List.getElem?_eq_getElem (by omega)]; rfl
    have HCe : Hid (∀ W, Below w.heap.size w W → ∀ j, j < 6 → W.cell? ⟨g, o + j, none⟩ = some (.string (ws.getD j ⟨#[]⟩))) := Lib.hid fun W hb j hj => (hb.cell (p := ⟨g, o + j, none⟩) hg).trans (hcell _ _ (hat j hj))
    have h0 : Laid2 w (.slice (some ⟨g, o, none⟩) 6 cap) ⟨#[]⟩ 0 0 0 0 0 0 0 (.slice none 0 0) ((w.alloc (.cells #[.slice (some ⟨g, o, none⟩) 6 cap] 28)).alloc (box9 ⟨#[]⟩ 0 0 0 0 0 0 0 (.slice none 0 0))) := by
      refine ⟨((Below.refl _ _).alloc (Nat.le_refl _) _).alloc (by simp) _, by simp, ?_, heap_alloc2_new _ _ _⟩
      rw [heap_alloc_old _ _ (by simp)]
      exact heap_alloc_new _ _
    have HD := Lib.hid (fun W (h : Below w.heap.size w W) => parse_vecP (ws.getD 1 ⟨#[]⟩) (hws _ (List.mem_of_getElem? (hat 1 (by omega)))) W (hR.below h))
    have HS := Lib.hid (fun W (h : Below w.heap.size w W) => Sel.parse_any (ws.getD 5 ⟨#[]⟩) (by have := hws _ (List.mem_of_getElem? (hat 5 (by omega))); omega) W (hR.err.below h))
    have HW := fun p a0 a1 a2 a3 n m k sa sn sc W => Lib.hid (with_any (cap := #[.pointer (some ⟨w.heap.size, 0, none⟩)]) (P := fun _ => Laid2 w (.slice (some ⟨g, o, none⟩) 6 cap) p a0 a1 a2 a3 n m k (.slice sa sn sc)) (v := numW ws) (ok := okW ws) hcl p a0 a1 a2 a3 n m k (.slice sa sn sc) W)
    have HFa := Lib.hid (fun (p : ByteArray) (a0 a1 a2 a3 n m k : Int) (v : Value) (H : Nat) => parse_fair3 (cap := cap) (p := p) (a0 := a0) (a1 := a1) (a2 := a2) (a3 := a3) (n := n) (m := m) (k := k) (v := v) (H := H) h6 hg hcell hws hR)
    unfold parseF at hr
    rw [if_pos h6] at hr
    have HR := Lib.hid hr
    obtain ⟨dv, hdv⟩ : ∃ d, d = vecP (ws.getD 1 ⟨#[]⟩) := ⟨_, rfl⟩
    rw [← hdv] at HD HR
    obtain ⟨ps, hps⟩ : ∃ d, d = parseS (ws.getD 5 ⟨#[]⟩) := ⟨_, rfl⟩
    rw [← hps] at HS HR
    obtain ⟨p0, hp0⟩ : ∃ d, d = ws.getD 0 ⟨#[]⟩ := ⟨_, rfl⟩
    obtain ⟨p1, hp1⟩ : ∃ d, d = ws.getD 1 ⟨#[]⟩ := ⟨_, rfl⟩
    obtain ⟨p5, hp5⟩ : ∃ d, d = ws.getD 5 ⟨#[]⟩ := ⟨_, rfl⟩
    rw [← hp0] at HR
    rw [← hp1] at HD
    rw [← hp5] at HS
    have HP : Hid (∀ W, Below w.heap.size w W → W.cell? ⟨g, o, none⟩ = some (.string p0) ∧ W.cell? ⟨g, o + 1, none⟩ = some (.string p1) ∧ W.cell? ⟨g, o + 5, none⟩ = some (.string p5)) := Lib.hid fun W h => by
      rw [hp0, hp1, hp5]
      exact ⟨HCe.out W h 0 (by omega), HCe.out W h 1 (by omega), HCe.out W h 5 (by omega)⟩
    clear hr hdv hps hp0 hp1 hp5 hcl hat hcell hws hR h6 hv HCe
    have hc6 : (6 : Nat) ≤ cap := hcap
    have HH0 := Lib.hid h0
    unfold box9 at HH0
    clear h0
    go_enter Tryz.func38, Tryz.ntmps38
    go_upto_region 3 with fail
    obtain ⟨W1, hW1⟩ : ∃ W1, W1 = (w.alloc (.cells #[.slice (some ⟨g, o, none⟩) 6 cap] 28)).alloc (box9 ⟨#[]⟩ 0 0 0 0 0 0 0 (.slice none 0 0)) := ⟨_, rfl⟩
    have hL1 : Laid2 w (.slice (some ⟨g, o, none⟩) 6 cap) ⟨#[]⟩ 0 0 0 0 0 0 0 (.slice none 0 0) W1 := by
      rw [hW1]
      exact HH0.out
    unfold box9 at hW1
    rw [← hW1]
    clear hW1 HH0
    obtain ⟨q0, q1, q5⟩ := HP.out W1 hL1.b
    obtain ⟨⟨c0, c1, c2, c3, c4, c5, c6, c7, c8⟩, f0, f1, f2, f3, f4, f5, f6, f7, f8⟩ := cells9 hL1.T
    have cS := cell_at (i := 0) (v := .slice (some ⟨g, o, none⟩) 6 cap) hL1.S rfl
    have HL2 := Lib.hid (hL1.setP p0)
    clear hL1
    go_upto_region 4 with fail
    obtain ⟨W2, hW2⟩ : ∃ W2, W2 = W1.setCell ⟨w.heap.size + 1, 0, none⟩ (.string p0) := ⟨_, rfl⟩
    have hL2 := HL2.out
    rw [← hW2] at hL2 ⊢
    clear hW2 HL2 q0 q1 q5 c0 c1 c2 c3 c4 c5 c6 c7 c8 f0 f1 f2 f3 f4 f5 f6 f7 f8 cS
    obtain ⟨q0, q1, q5⟩ := HP.out W2 hL2.b
    obtain ⟨⟨c0, c1, c2, c3, c4, c5, c6, c7, c8⟩, f0, f1, f2, f3, f4, f5, f6, f7, f8⟩ := cells9 hL2.T
    have cS := cell_at (i := 0) (v := .slice (some ⟨g, o, none⟩) 6 cap) hL2.S rfl
    have HL2 := Lib.hid hL2
    go_wp2_with fail
    refine (HD.out _ hL2.b).mono ?_
    rintro e w3 ⟨rfl, hb3⟩
    have hL3 := HL2.out.more hb3
    clear hL2 HL2 hb3 q0 q1 q5 c0 c1 c2 c3 c4 c5 c6 c7 c8 f0 f1 f2 f3 f4 f5 f6 f7 f8 cS
    cases dv with
    | none =>
      obtain ⟨⟨c0, c1, c2, c3, c4, c5, c6, c7, c8⟩, f0, f1, f2, f3, f4, f5, f6, f7, f8⟩ := cells9 hL3.T
      have cS := cell_at (i := 0) (v := .slice (some ⟨g, o, none⟩) 6 cap) hL3.S rfl
      have hrn : r = none := HR.out
      subst hrn
      have HL4 := Lib.hid (hL3.setD 0 0 0 0)
      clear hL3
      have hvz : vecV ((none : Option V4).getD (0, 0, 0, 0)) = vec 0 0 0 0 := rfl
      have hnz : (none : Option V4).isSome = false := rfl
      rw [hvz, hnz]
      clear hvz hnz
      unfold vec
      go_upto_region 6 with fail
      obtain ⟨W4, hW4⟩ : ∃ W4, W4 = Job.setD (w.heap.size + 1) 0 0 0 0 w3 := ⟨_, rfl⟩
      have hL4 := HL4.out
      rw [← hW4] at hL4
      unfold Job.setD at hW4
      rw [← hW4]
      clear hW4 HL4 c0 c1 c2 c3 c4 c5 c6 c7 c8 f0 f1 f2 f3 f4 f5 f6 f7 f8 cS
      obtain ⟨⟨c0, c1, c2, c3, c4, c5, c6, c7, c8⟩, f0, f1, f2, f3, f4, f5, f6, f7, f8⟩ := cells9 hL4.T
      have cS := cell_at (i := 0) (v := .slice (some ⟨g, o, none⟩) 6 cap) hL4.S rfl
      have HZ := Lib.hid (hL4.set9 ⟨#[]⟩ 0 0 0 0 0 0 0 (.slice none 0 0))
      go_wp2
      have hZ := HZ.out
      obtain ⟨⟨d0, d1, d2, d3, d4, d5, d6, d7, d8⟩, _⟩ := cells9 hZ.T
      have hB := hZ.b
      unfold Job.set9 at d0 d1 d2 d3 d4 d5 d6 d7 d8 hB
      refine bodyPost_ret (v := .tuple #[.agg #[.string ⟨#[]⟩, .int .u64 0, .int .u64 0, .int .u64 0, .int .u64 0, .int .i64 0, .int .i64 0, .int .i64 0, .slice none 0 0], .bool false]) (by simp [results, Tryz.results38, go_sem, d0, d1, d2, d3, d4, d5, d6, d7, d8]) rfl ?_
      exact ⟨⟨_, _, _, _, _, _, _, _, _, _, _, rfl⟩, hB⟩
    | some u =>
      dsimp only [Option.getD, Option.isSome]
      obtain ⟨B0, hB0⟩ : ∃ b : Int, b = am u 0 := ⟨_, rfl⟩
      obtain ⟨B1, hB1⟩ : ∃ b : Int, b = am u 1 := ⟨_, rfl⟩
      obtain ⟨B2, hB2⟩ : ∃ b : Int, b = am u 2 := ⟨_, rfl⟩
      obtain ⟨B3, hB3⟩ : ∃ b : Int, b = am u 3 := ⟨_, rfl⟩
      unfold vecV vec
      rw [← hB0, ← hB1, ← hB2, ← hB3]
      have HB := Lib.hid (And.intro hB0 (And.intro hB1 (And.intro hB2 hB3)))
      clear hB0 hB1 hB2 hB3
      obtain ⟨⟨c0, c1, c2, c3, c4, c5, c6, c7, c8⟩, f0, f1, f2, f3, f4, f5, f6, f7, f8⟩ := cells9 hL3.T
      have cS := cell_at (i := 0) (v := .slice (some ⟨g, o, none⟩) 6 cap) hL3.S rfl
      have HL4 := Lib.hid (hL3.setD B0 B1 B2 B3)
      clear hL3
      go_upto_region 7 with fail
      obtain ⟨W4, hW4⟩ : ∃ W4, W4 = Job.setD (w.heap.size + 1) B0 B1 B2 B3 w3 := ⟨_, rfl⟩
      have hL4 := HL4.out
      rw [← hW4] at hL4
      unfold Job.setD at hW4
      rw [← hW4]
      clear hW4 HL4 c0 c1 c2 c3 c4 c5 c6 c7 c8 f0 f1 f2 f3 f4 f5 f6 f7 f8 cS
      obtain ⟨⟨c0, c1, c2, c3, c4, c5, c6, c7, c8⟩, f0, f1, f2, f3, f4, f5, f6, f7, f8⟩ := cells9 hL4.T
      have cS := cell_at (i := 0) (v := .slice (some ⟨g, o, none⟩) 6 cap) hL4.S rfl
      have HX := HW p0 B0 B1 B2 B3 0 0 0 none 0 0 W4
      have HX2 := Lib.hid (HX.out (fun j a b hab h => h.later (hab.mono hL4.z)) ⟨_, _, _, rfl⟩ (HFa.out _ _ _ _ _ _ _ _ _ _) hL4)
      clear HX HW HFa hL4
      unfold val9 at HX2
      go_wp2_with fail
      refine HX2.out.mono ?_
      clear c0 c1 c2 c3 c4 c5 c6 c7 c8 f0 f1 f2 f3 f4 f5 f6 f7 f8 cS
      rintro e w5 (⟨hg3, rfl, hL5⟩ | ⟨⟨i, hi, hbad, hL5⟩, rfl⟩)
      · obtain ⟨v0, hv0⟩ : ∃ b : Int, b = numW ws 0 := ⟨_, rfl⟩
        obtain ⟨v1, hv1⟩ : ∃ b : Int, b = numW ws 1 := ⟨_, rfl⟩
        obtain ⟨v2, hv2⟩ : ∃ b : Int, b = numW ws 2 := ⟨_, rfl⟩
        have HF : Hid (r = ps.map fun ls => (p0, u, (v0, v1, v2), ls)) := Lib.hid (by
            have h := HR.out
            clear HS
            rw [hv0, hv1, hv2]
            rw [if_pos (all3 hg3)] at h
            rw [h]
            cases ps <;> rfl)
        rw [← hv0, ← hv1, ← hv2]
        clear hg3 hv0 hv1 hv2 HR
        obtain ⟨⟨c0, c1, c2, c3, c4, c5, c6, c7, c8⟩, f0, f1, f2, f3, f4, f5, f6, f7, f8⟩ := cells9 hL5.T
        have cS := cell_at (i := 0) (v := .slice (some ⟨g, o, none⟩) 6 cap) hL5.S rfl
        have HL6 := Lib.hid (hL5.set9 p0 B0 B1 B2 B3 v0 v1 v2 (.slice none 0 0))
        clear hL5
        unfold val9
        go_upto_region 10 with fail
        obtain ⟨W6, hW6⟩ : ∃ W6, W6 = Job.set9 (w.heap.size + 1) p0 B0 B1 B2 B3 v0 v1 v2 (.slice none 0 0) w5 := ⟨_, rfl⟩
        have hL6 := HL6.out
        rw [← hW6] at hL6
        unfold Job.set9 at hW6
        rw [← hW6]
        clear hW6 HL6 c0 c1 c2 c3 c4 c5 c6 c7 c8 f0 f1 f2 f3 f4 f5 f6 f7 f8 cS
        obtain ⟨q0, q1, q5⟩ := HP.out W6 hL6.b
        obtain ⟨⟨c0, c1, c2, c3, c4, c5, c6, c7, c8⟩, f0, f1, f2, f3, f4, f5, f6, f7, f8⟩ := cells9 hL6.T
        have cS := cell_at (i := 0) (v := .slice (some ⟨g, o, none⟩) 6 cap) hL6.S rfl
        have HL6 := Lib.hid hL6
        go_wp2_with fail
        refine (HS.out _ hL6.b).mono ?_
        rintro e w7 ⟨hres, hb7⟩
        have hL7 := HL6.out.more hb7
        clear hL6 HL6 hb7 q0 q1 q5 c0 c1 c2 c3 c4 c5 c6 c7 c8 f0 f1 f2 f3 f4 f5 f6 f7 f8 cS
        cases ps with
        | none =>
          obtain rfl := hres
          obtain ⟨⟨c0, c1, c2, c3, c4, c5, c6, c7, c8⟩, f0, f1, f2, f3, f4, f5, f6, f7, f8⟩ := cells9 hL7.T
          have cS := cell_at (i := 0) (v := .slice (some ⟨g, o, none⟩) 6 cap) hL7.S rfl
          have HL8 := Lib.hid (hL7.setS (.slice none 0 0))
          clear hL7
          go_upto_region 11 with fail
          obtain ⟨W8, hW8⟩ : ∃ W8, W8 = w7.setCell ⟨w.heap.size + 1, 8, none⟩ (.slice none 0 0) := ⟨_, rfl⟩
          have hL8 := HL8.out
          rw [← hW8] at hL8 ⊢
          clear hW8 HL8 c0 c1 c2 c3 c4 c5 c6 c7 c8 f0 f1 f2 f3 f4 f5 f6 f7 f8 cS
          obtain ⟨⟨c0, c1, c2, c3, c4, c5, c6, c7, c8⟩, f0, f1, f2, f3, f4, f5, f6, f7, f8⟩ := cells9 hL8.T
          have cS := cell_at (i := 0) (v := .slice (some ⟨g, o, none⟩) 6 cap) hL8.S rfl
          have HL9 := Lib.hid (hL8.set9 p0 B0 B1 B2 B3 v0 v1 v2 (.slice none 0 0))
          clear hL8
          go_wp2
          have hZ := HL9.out
          obtain ⟨⟨d0, d1, d2, d3, d4, d5, d6, d7, d8⟩, _⟩ := cells9 hZ.T
          have hB := hZ.b
          unfold Job.set9 at d0 d1 d2 d3 d4 d5 d6 d7 d8 hB
          refine bodyPost_ret (v := .tuple #[.agg #[.string p0, .int .u64 B0, .int .u64 B1, .int .u64 B2, .int .u64 B3, .int .i64 v0, .int .i64 v1, .int .i64 v2, (.slice none 0 0)], .bool false]) (by simp [results, Tryz.results38, go_sem, d0, d1, d2, d3, d4, d5, d6, d7, d8]) rfl ?_
          rw [HF.out]
          exact ⟨⟨_, _, _, _, _, _, _, _, _, _, _, rfl⟩, hB⟩
        | some ls =>
          obtain ⟨v, rfl, hrow⟩ := hres
          obtain ⟨sa, sc, rfl, _, _⟩ := hrow.slice
          have HRow := Lib.hid hrow
          obtain ⟨sn, hsn⟩ : ∃ n, n = ls.length := ⟨_, rfl⟩
          rw [← hsn] at HRow ⊢
          clear hrow hsn
          obtain ⟨⟨c0, c1, c2, c3, c4, c5, c6, c7, c8⟩, f0, f1, f2, f3, f4, f5, f6, f7, f8⟩ := cells9 hL7.T
          have cS := cell_at (i := 0) (v := .slice (some ⟨g, o, none⟩) 6 cap) hL7.S rfl
          have HK8 := Lib.hid (setS_kept HRow.out hL7.T sa sn sc)
          have HL8 := Lib.hid (hL7.setS (.slice sa sn sc))
          clear hL7
          go_upto_region 11 with fail
          obtain ⟨W8, hW8⟩ : ∃ W8, W8 = w7.setCell ⟨w.heap.size + 1, 8, none⟩ (.slice sa sn sc) := ⟨_, rfl⟩
          have hL8 := HL8.out
          have hK8 := HK8.out
          rw [← hW8] at hK8
          rw [← hW8] at hL8 ⊢
          clear hW8 HL8 c0 c1 c2 c3 c4 c5 c6 c7 c8 f0 f1 f2 f3 f4 f5 f6 f7 f8 cS
          obtain ⟨⟨c0, c1, c2, c3, c4, c5, c6, c7, c8⟩, f0, f1, f2, f3, f4, f5, f6, f7, f8⟩ := cells9 hL8.T
          have cS := cell_at (i := 0) (v := .slice (some ⟨g, o, none⟩) 6 cap) hL8.S rfl
          have HK := Lib.hid (store_kept hK8 hL8.T B0 B1 B2 B3 v0 v1 v2 sa sn sc)
          clear hK8 HK8
          have HL9 := Lib.hid (hL8.set9 p0 B0 B1 B2 B3 v0 v1 v2 (.slice sa sn sc))
          clear hL8
          go_wp2
          have hZ := HL9.out
          obtain ⟨⟨d0, d1, d2, d3, d4, d5, d6, d7, d8⟩, _⟩ := cells9 hZ.T
          have hB := hZ.b
          unfold Job.set9 at d0 d1 d2 d3 d4 d5 d6 d7 d8 hB
          have hK := HK.out
          unfold Job.set9 at hK
          refine bodyPost_ret (v := .tuple #[.agg #[.string p0, .int .u64 B0, .int .u64 B1, .int .u64 B2, .int .u64 B3, .int .i64 v0, .int .i64 v1, .int .i64 v2, (.slice sa sn sc)], .bool true]) (by simp [results, Tryz.results38, go_sem, d0, d1, d2, d3, d4, d5, d6, d7, d8]) rfl ?_
          rw [HF.out]
          refine ⟨⟨.slice sa sn sc, ?_, hK⟩, hB⟩
          obtain ⟨e0, e1, e2, e3⟩ := HB.out
          rw [e0, e1, e2, e3]
          rfl
      · have hrn : r = none := by
          have h := HR.out
          rw [if_neg (not3 hi hbad)] at h
          exact h
        subst hrn
        clear hi hbad HR
        obtain ⟨⟨c0, c1, c2, c3, c4, c5, c6, c7, c8⟩, f0, f1, f2, f3, f4, f5, f6, f7, f8⟩ := cells9 hL5.T
        have cS := cell_at (i := 0) (v := .slice (some ⟨g, o, none⟩) 6 cap) hL5.S rfl
        have HL6 := Lib.hid (hL5.set9 ⟨#[]⟩ 0 0 0 0 0 0 0 (.slice none 0 0))
        clear hL5
        unfold zero9 val9
        go_upto_region 9 with fail
        obtain ⟨W6, hW6⟩ : ∃ W6, W6 = Job.set9 (w.heap.size + 1) ⟨#[]⟩ 0 0 0 0 0 0 0 (.slice none 0 0) w5 := ⟨_, rfl⟩
        have hL6 := HL6.out
        rw [← hW6] at hL6
        unfold Job.set9 at hW6
        rw [← hW6]
        clear hW6 HL6 c0 c1 c2 c3 c4 c5 c6 c7 c8 f0 f1 f2 f3 f4 f5 f6 f7 f8 cS
        obtain ⟨⟨c0, c1, c2, c3, c4, c5, c6, c7, c8⟩, f0, f1, f2, f3, f4, f5, f6, f7, f8⟩ := cells9 hL6.T
        have cS := cell_at (i := 0) (v := .slice (some ⟨g, o, none⟩) 6 cap) hL6.S rfl
        have HZ := Lib.hid (hL6.set9 ⟨#[]⟩ 0 0 0 0 0 0 0 (.slice none 0 0))
        go_wp2
        have hZ := HZ.out
        obtain ⟨⟨d0, d1, d2, d3, d4, d5, d6, d7, d8⟩, _⟩ := cells9 hZ.T
        have hB := hZ.b
        unfold Job.set9 at d0 d1 d2 d3 d4 d5 d6 d7 d8 hB
        refine bodyPost_ret (v := .tuple #[.agg #[.string ⟨#[]⟩, .int .u64 0, .int .u64 0, .int .u64 0, .int .u64 0, .int .i64 0, .int .i64 0, .int .i64 0, .slice none 0 0], .bool false]) (by simp [results, Tryz.results38, go_sem, d0, d1, d2, d3, d4, d5, d6, d7, d8]) rfl ?_
        exact ⟨⟨_, _, _, _, _, _, _, _, _, _, _, rfl⟩, hB⟩
  · obtain ⟨a, cap, rfl, _, _⟩ := hv.slice
    have hne : ((ws.length : Int) != 6) = true := by simp; omega
    have hne' : ((ws.length : Int) == 6) = false := by simp; omega
    have hrn : r = none := by
      rw [hr]
      unfold parseF
      rw [if_neg h6]
    subst hrn
    obtain ⟨N, hN⟩ : ∃ N, N = ws.length := ⟨_, rfl⟩
    rw [← hN] at hne hne' ⊢
    clear hr hv hws hR h6 hN
    go_enter Tryz.func38, Tryz.ntmps38
    go_wp2
    obtain ⟨W, hW⟩ : ∃ W, W = (w.alloc (.cells #[.slice a N cap] 28)).alloc (box9 ⟨#[]⟩ 0 0 0 0 0 0 0 (.slice none 0 0)) := ⟨_, rfl⟩
    have hT : W.heap[w.heap.size + 1]? = some (box9 ⟨#[]⟩ 0 0 0 0 0 0 0 (.slice none 0 0)) := by rw [hW]; exact heap_alloc2_new _ _ _
    have hB : Below w.heap.size w W := by rw [hW]; exact ((Below.refl _ _).alloc (Nat.le_refl _) _).alloc (by simp) _
    unfold box9 at hW
    rw [← hW]
    clear hW
    obtain ⟨⟨d0, d1, d2, d3, d4, d5, d6, d7, d8⟩, _⟩ := cells9 hT
    refine bodyPost_ret (v := .tuple #[.agg #[.string ⟨#[]⟩, .int .u64 0, .int .u64 0, .int .u64 0, .int .u64 0, .int .i64 0, .int .i64 0, .int .i64 0, .slice none 0 0], .bool false]) (by simp [results, Tryz.results38, go_sem, d0, d1, d2, d3, d4, d5, d6, d7, d8]) rfl ?_
    exact ⟨⟨_, _, _, _, _, _, _, _, _, _, _, rfl⟩, hB⟩
end Go.Proofs.YtbilkeadhflibaaGreatDoor.Job

/- What spec.Parse answers of any words: the job that may be whose Text has them between its spaces. -/
namespace Go.Proofs.YtbilkeadhflibaaGreatDoor.Job
open Go.RowKit Go.Proofs.YtbilkeadhflibaaGreatDoor.Wire Go.Proofs.YtbilkeadhflibaaGreatDoor.Vec Go.Proofs.YtbilkeadhflibaaGreatDoor.Sel Go.Proofs.YtbilkeadhflibaaGreatDoor.Texts

theorem parseS_right {s : ByteArray} {ls : List Tm} (h : parseS s = some ls) : rightS ls = true := by
  unfold parseS at h
  split at h
  · injection h with h
    subst h
    rfl
  · split at h
    · rename_i hr
      injection h with h
      subst h
      exact hr.1
    · cases h
theorem parseF_parts {ws : List ByteArray} {x : Jb} (hws : ∀ x ∈ ws, x.size ≤ 140737488355328) (h : parseF ws = some x) : FairJ x ∧ rightS (terms x) = true := by
  unfold parseF at h
  split at h
  · rename_i h6
    split at h
    · cases h
    · rename_i v hv
      split at h
      · split at h
        · cases h
        · rename_i ls hl
          injection h with h
          have hr := parseS_right hl
          subst h
          refine ⟨⟨?_, (vecP_some hv).1, fair_right hr⟩, hr⟩
          have h0 : ws[0]? = some (ws.getD 0 ⟨#[]⟩) := by rw [List.getD_eq_getElem?_getD, List.getElem?_eq_getElem (by omega)]; rfl
          exact hws _ (List.mem_of_getElem? h0)
      · cases h
  · cases h
def keepP : Option Jb → Option Jb
  | none => none
  | some x => if checkJ x = 0 then some x else none
theorem parseJ_keep (ws : List ByteArray) : parseJ ws = keepP (parseF ws) := by
  unfold parseJ keepP
  cases parseF ws <;> rfl
def TellsJP (r : Option Jb) (w : World) (e : Ending) (w' : World) : Prop := (match r with
  | some x => ∃ v, e = .returned (.tuple #[valJ x v, .bool true]) ∧ TRow w' v (terms x)
  | none => e = .returned (.tuple #[zero9, .bool false])) ∧ Below w.heap.size w w'

set_option maxRecDepth 100000 in
set_option maxHeartbeats 4000000 in
theorem parse_jb (ws : List ByteArray) (v : Value) (w : World) (hv : SRow w v ws) (hws : ∀ x ∈ ws, x.size ≤ 140737488355328) (hR : Roots w) :
    Calls Tryz.prog 15 #[v] w (TellsJP (parseJ ws) w) := by
  rw [parseJ_keep]
  have HF := Lib.hid (fun W (h : Below w.heap.size w W) => parseFields_any ws v W (hv.below h) (fun x hx => by have := hws x hx; omega) (hR.below h))
  have hfp : Hid (∀ x, parseF ws = some x → FairJ x ∧ rightS (terms x) = true) := Lib.hid fun x h => parseF_parts hws h
  obtain ⟨sa0, sc0, rfl, _, _⟩ := hv.slice
  obtain ⟨sn0, hsn0⟩ : ∃ n, n = ws.length := ⟨_, rfl⟩
  rw [← hsn0] at HF ⊢
  obtain ⟨r, hr⟩ : ∃ r, r = parseF ws := ⟨_, rfl⟩
  rw [← hr] at HF hfp ⊢
  clear hr hR hv hws hsn0
  have h0 : (w.alloc (box9 ⟨#[]⟩ 0 0 0 0 0 0 0 (.slice none 0 0))).heap[w.heap.size]? = some (box9 ⟨#[]⟩ 0 0 0 0 0 0 0 (.slice none 0 0)) := heap_alloc_new _ _
  have hz0 : w.heap.size < (w.alloc (box9 ⟨#[]⟩ 0 0 0 0 0 0 0 (.slice none 0 0))).heap.size := by simp
  unfold box9 at h0 hz0
  go_enter Tryz.func15, Tryz.ntmps15
  go_wp2_with fail
  refine (HF.out _ (grew w _)).mono ?_
  rintro e w1 ⟨hres, hb1⟩
  have hT : w1.heap[w.heap.size]? = some (box9 ⟨#[]⟩ 0 0 0 0 0 0 0 (.slice none 0 0)) := (hb1.block _ hz0).trans h0
  have HB1 := Lib.hid (grows (grew w _) hb1)
  clear hb1 h0 hz0
  cases r with
  | none =>
    obtain ⟨q, b0, b1, b2, b3, n, m, k, sa, sn, sc, rfl⟩ := hres
    obtain ⟨⟨c0, c1, c2, c3, c4, c5, c6, c7, c8⟩, f0, f1, f2, f3, f4, f5, f6, f7, f8⟩ := cells9 hT
    have HT2 := Lib.hid (set9_box hT q b0 b1 b2 b3 n m k (.slice sa sn sc))
    have HB2 := Lib.hid (set9_below (T := w.heap.size) (p := q) (a0 := b0) (a1 := b1) (a2 := b2) (a3 := b3) (n := n) (m := m) (k := k) (s := .slice sa sn sc) HB1.out (Nat.le_refl _))
    clear hT HB1
    unfold val9
    go_upto_region 2 with fail
    obtain ⟨W2, hW2⟩ : ∃ W2, W2 = set9 w.heap.size q b0 b1 b2 b3 n m k (.slice sa sn sc) w1 := ⟨_, rfl⟩
    have hT2 := HT2.out
    have hB2 := HB2.out
    rw [← hW2] at hT2 hB2
    unfold set9 at hW2
    rw [← hW2]
    clear hW2 HT2 HB2 c0 c1 c2 c3 c4 c5 c6 c7 c8 f0 f1 f2 f3 f4 f5 f6 f7 f8
    obtain ⟨⟨c0, c1, c2, c3, c4, c5, c6, c7, c8⟩, f0, f1, f2, f3, f4, f5, f6, f7, f8⟩ := cells9 hT2
    have HT3 := Lib.hid (set9_box hT2 ⟨#[]⟩ 0 0 0 0 0 0 0 (.slice none 0 0))
    have HB3 := Lib.hid (set9_below (T := w.heap.size) (p := ⟨#[]⟩) (a0 := 0) (a1 := 0) (a2 := 0) (a3 := 0) (n := 0) (m := 0) (k := 0) (s := .slice none 0 0) hB2 (Nat.le_refl _))
    clear hT2 hB2
    go_wp2
    obtain ⟨⟨d0, d1, d2, d3, d4, d5, d6, d7, d8⟩, _⟩ := cells9 HT3.out
    have hB := HB3.out
    unfold set9 at d0 d1 d2 d3 d4 d5 d6 d7 d8 hB
    refine bodyPost_ret (v := .tuple #[.agg #[.string ⟨#[]⟩, .int .u64 0, .int .u64 0, .int .u64 0, .int .u64 0, .int .i64 0, .int .i64 0, .int .i64 0, .slice none 0 0], .bool false]) (by simp [results, Tryz.results15, go_sem, d0, d1, d2, d3, d4, d5, d6, d7, d8]) rfl ?_
    exact ⟨rfl, hB⟩
  | some x =>
    obtain ⟨v, rfl, hrow⟩ := hres
    obtain ⟨sa, sc, rfl, _, _⟩ := hrow.slice
    have HK : Hid ((checkJ x = 0 → keepP (some x) = some x) ∧ (checkJ x ≠ 0 → keepP (some x) = none)) := Lib.hid ⟨fun h => if_pos h, fun h => if_neg h⟩
    obtain ⟨hfx, hrt⟩ := hfp.out x rfl
    have HRt := Lib.hid hrt
    clear hrt
    have HC := Lib.hid (fun W (h : TRow W (.slice sa (terms x).length sc) (terms x)) => check_any x (.slice sa (terms x).length sc) W hfx h)
    rw [valJ_eq] at HC ⊢
    have HV : Hid (valJ x (.slice sa (terms x).length sc) = val9 (path x) (am (dem x) 0) (am (dem x) 1) (am (dem x) 2) (am (dem x) 3) (cou x) (pri x) (tik x) (.slice sa (terms x).length sc)) := Lib.hid rfl
    obtain ⟨c, hc⟩ : ∃ c, c = checkJ x := ⟨_, rfl⟩
    rw [← hc] at HC HK
    obtain ⟨q, hq⟩ : ∃ q, q = path x := ⟨_, rfl⟩
    obtain ⟨b0, e0⟩ : ∃ b : Int, b = am (dem x) 0 := ⟨_, rfl⟩
    obtain ⟨b1, e1⟩ : ∃ b : Int, b = am (dem x) 1 := ⟨_, rfl⟩
    obtain ⟨b2, e2⟩ : ∃ b : Int, b = am (dem x) 2 := ⟨_, rfl⟩
    obtain ⟨b3, e3⟩ : ∃ b : Int, b = am (dem x) 3 := ⟨_, rfl⟩
    obtain ⟨n, en⟩ : ∃ n, n = cou x := ⟨_, rfl⟩
    obtain ⟨m, em⟩ : ∃ n, n = pri x := ⟨_, rfl⟩
    obtain ⟨k, ek⟩ : ∃ n, n = tik x := ⟨_, rfl⟩
    obtain ⟨sn, esn⟩ : ∃ n, n = (terms x).length := ⟨_, rfl⟩
    rw [← esn] at hrow HC HV ⊢
    rw [← hq, ← e0, ← e1, ← e2, ← e3, ← en, ← em, ← ek] at HC HV ⊢
    clear hq e0 e1 e2 e3 en em ek esn hfx hfp hc
    obtain ⟨⟨c0, c1, c2, c3, c4, c5, c6, c7, c8⟩, f0, f1, f2, f3, f4, f5, f6, f7, f8⟩ := cells9 hT
    have HT1 := Lib.hid hT
    have HRow := Lib.hid hrow
    clear hT hrow
    unfold val9
    unfold val9 at HC
    go_upto_region 2 with fail
    obtain ⟨W2, hW2⟩ : ∃ W2, W2 = set9 w.heap.size q b0 b1 b2 b3 n m k (.slice sa sn sc) w1 := ⟨_, rfl⟩
    have hT2 : W2.heap[w.heap.size]? = some (box9 q b0 b1 b2 b3 n m k (.slice sa sn sc)) := by rw [hW2]; exact set9_box HT1.out q b0 b1 b2 b3 n m k (.slice sa sn sc)
    have hB2 : Below w.heap.size w W2 := by rw [hW2]; exact set9_below HB1.out (Nat.le_refl _)
    have hR2 : TRow W2 (.slice sa sn sc) (terms x) := by
      rw [hW2]
      exact fresh_kept HRow.out HRt.out HT1.out q b0 b1 b2 b3 n m k sa sn sc
    unfold set9 at hW2
    rw [← hW2]
    clear hW2 HT1 HB1 HRow c0 c1 c2 c3 c4 c5 c6 c7 c8 f0 f1 f2 f3 f4 f5 f6 f7 f8
    obtain ⟨⟨c0, c1, c2, c3, c4, c5, c6, c7, c8⟩, f0, f1, f2, f3, f4, f5, f6, f7, f8⟩ := cells9 hT2
    have HT2 := Lib.hid hT2
    have HB2 := Lib.hid hB2
    have HR2 := Lib.hid hR2
    clear hT2 hB2 hR2
    go_wp2_with fail
    refine (HC.out _ HR2.out).mono ?_
    rintro e w3 ⟨rfl, hb3⟩
    have hT3 : w3.heap[w.heap.size]? = some (box9 q b0 b1 b2 b3 n m k (.slice sa sn sc)) := (hb3.block _ (Array.getElem?_eq_some_iff.1 HT2.out).1).trans HT2.out
    have HB3 := Lib.hid (grows HB2.out hb3)
    have HR3 := Lib.hid (HR2.out.below hb3)
    clear hb3 HT2 HB2 HR2 c0 c1 c2 c3 c4 c5 c6 c7 c8 f0 f1 f2 f3 f4 f5 f6 f7 f8
    obtain ⟨⟨c0, c1, c2, c3, c4, c5, c6, c7, c8⟩, f0, f1, f2, f3, f4, f5, f6, f7, f8⟩ := cells9 hT3
    by_cases hc0 : c = 0
    · subst hc0
      have HT4 := Lib.hid (set9_box hT3 q b0 b1 b2 b3 n m k (.slice sa sn sc))
      have HB4 := Lib.hid (set9_below (T := w.heap.size) (p := q) (a0 := b0) (a1 := b1) (a2 := b2) (a3 := b3) (n := n) (m := m) (k := k) (s := .slice sa sn sc) HB3.out (Nat.le_refl _))
      have HR4 := Lib.hid (store_kept HR3.out hT3 b0 b1 b2 b3 n m k sa sn sc)
      clear hT3 HB3 HR3
      go_wp2
      obtain ⟨⟨d0, d1, d2, d3, d4, d5, d6, d7, d8⟩, _⟩ := cells9 HT4.out
      have hB := HB4.out
      have hR := HR4.out
      unfold set9 at d0 d1 d2 d3 d4 d5 d6 d7 d8 hB hR
      refine bodyPost_ret (v := .tuple #[.agg #[.string q, .int .u64 b0, .int .u64 b1, .int .u64 b2, .int .u64 b3, .int .i64 n, .int .i64 m, .int .i64 k, .slice sa sn sc], .bool true]) (by simp [results, Tryz.results15, go_sem, d0, d1, d2, d3, d4, d5, d6, d7, d8]) rfl ?_
      rw [HK.out.1 trivial]
      refine ⟨⟨.slice sa sn sc, ?_, hR⟩, hB⟩
      rw [HV.out]
      rfl
    · have hne : (c != 0) = true := by simpa using hc0
      have hne' : (c == 0) = false := by simpa using hc0
      have HT4 := Lib.hid (set9_box hT3 ⟨#[]⟩ 0 0 0 0 0 0 0 (.slice none 0 0))
      have HB4 := Lib.hid (set9_below (T := w.heap.size) (p := ⟨#[]⟩) (a0 := 0) (a1 := 0) (a2 := 0) (a3 := 0) (n := 0) (m := 0) (k := 0) (s := .slice none 0 0) HB3.out (Nat.le_refl _))
      clear hT3 HB3 HR3
      go_wp2
      obtain ⟨⟨d0, d1, d2, d3, d4, d5, d6, d7, d8⟩, _⟩ := cells9 HT4.out
      have hB := HB4.out
      unfold set9 at d0 d1 d2 d3 d4 d5 d6 d7 d8 hB
      refine bodyPost_ret (v := .tuple #[.agg #[.string ⟨#[]⟩, .int .u64 0, .int .u64 0, .int .u64 0, .int .u64 0, .int .i64 0, .int .i64 0, .int .i64 0, .slice none 0 0], .bool false]) (by simp [results, Tryz.results15, go_sem, d0, d1, d2, d3, d4, d5, d6, d7, d8]) rfl ?_
      rw [HK.out.2 hc0]
      exact ⟨rfl, hB⟩
end Go.Proofs.YtbilkeadhflibaaGreatDoor.Job

/- What spec.Text answers of any job. -/
namespace Go.Proofs.YtbilkeadhflibaaGreatDoor.Job
open Go.RowKit Go.Proofs.YtbilkeadhflibaaGreatDoor.Wire Go.Proofs.YtbilkeadhflibaaGreatDoor.Vec Go.Proofs.YtbilkeadhflibaaGreatDoor.Sel Go.Proofs.YtbilkeadhflibaaGreatDoor.Texts Go.Proofs.YtbilkeadhflibaaGreatDoor.Forms

/-- The words of a job. -/
def wordsN (x : Jb) : Nat → List ByteArray
  | 0 => [path x, textV (dem x)]
  | k + 1 => wordsN x k ++ [dec (numJ x k)]
def wordsJ (x : Jb) : List ByteArray := wordsN x 3 ++ [textS (terms x)]
/-- Text: P11.3. -/
def textJ (x : Jb) : ByteArray := if checkJ x = 0 then str (glueC 32 ((wordsJ x).map fun t => t.data.toList)) else ⟨#[63]⟩
theorem wordsN_len (x : Jb) : ∀ k, (wordsN x k).length = 2 + k
  | 0 => rfl
  | k + 1 => by
    show (wordsN x k ++ _).length = _
    rw [List.length_append, wordsN_len x k]
    rfl
theorem wordsJ_eq (x : Jb) : wordsJ x = [path x, textV (dem x), dec (numJ x 0), dec (numJ x 1), dec (numJ x 2), textS (terms x)] := rfl
theorem text_small {ls : List Tm} (h : rightS ls = true) : (textS ls).size ≤ 1000 := by
  obtain ⟨h4, ht⟩ := rightS_parts h
  unfold textS
  rw [if_pos h]
  split
  · decide
  · rw [str_len]
    have := glue_show 44 ls ht
    omega
theorem part_len : ∀ (l : List UInt8), Word.parts l ≠ [] → l.length ≤ 98 := fun l h => by
  have hg := Word.parts_glue h
  have hp : (Word.parts l).length ≤ 3 ∧ ∀ x ∈ Word.parts l, x.length ≤ 32 := by
    rw [Word.parts_cut] at h ⊢
    split at h
    · rename_i hc
      rw [if_pos hc]
      exact ⟨hc.1, fun x hx => (Word.right_free (List.all_eq_true.1 hc.2 x hx)).2⟩
    · exact absurd rfl h
  rw [← hg]
  generalize Word.parts l = ps at hp
  obtain ⟨h3, hs⟩ := hp
  match ps, h3, hs with
  | [], _, _ => simp [Word.glue]
  | [a], _, hs => have := hs a (by simp); simp [Word.glue]; omega
  | [a, b], _, hs => have := hs a (by simp); have := hs b (by simp); simp [Word.glue]; omega
  | [a, b, c], _, hs => have := hs a (by simp); have := hs b (by simp); have := hs c (by simp); simp [Word.glue]; omega
theorem path_len {x : Jb} (h : checkJ x = 0) : (path x).size ≤ 98 := by
  have := part_len _ (checkJ_ok.1 h).1
  rwa [size_list] at this
theorem glue6 (c : UInt8) (p t a b d s : List UInt8) : (glueC c [p, t, a, b, d, s]).length = p.length + t.length + a.length + b.length + d.length + s.length + 5 := by
  simp [glueC]
  omega
theorem textJ_small {x : Jb} (hf : FairJ x) (h : checkJ x = 0) : (glueC 32 ((wordsJ x).map fun t => t.data.toList)).length ≤ 1300 := by
  rw [wordsJ_eq]
  simp only [List.map_cons, List.map_nil]
  rw [glue6]
  have hB := (checkJ_ok.1 h).2.1
  have h1 := path_len h
  have h2 := (textV_size hf.dem).2
  have hd : ∀ j, (dec (numJ x j)).size ≤ 20 := fun j => (dec_size (by have := numJ_lt hB j; omega)).2
  have h3 := hd 0
  have h4 := hd 1
  have h5 := hd 2
  have h6 := text_small (checkJ_ok.1 h).2.2.1
  rw [size_list, size_list, size_list, size_list, size_list, size_list]
  omega
theorem own_two (w : World) (B : Nat) (hB : B ≤ w.heap.size) (p t : ByteArray) : (w.alloc (.cells #[.string p, .string t] 9)).ownsRow B 9 1 (.slice (some ⟨w.heap.size, 0, none⟩) 2 2) 2 (svals [p, t]) :=
  ⟨rfl, .inr ⟨w.heap.size, 2, _, rfl, hB, heap_alloc_new _ _, Nat.le_refl _, by unfold maxLen; omega, rfl, rfl⟩⟩

set_option maxRecDepth 100000 in
set_option maxHeartbeats 4000000 in
theorem text_jb (x : Jb) (s : Value) (w : World) (hf : FairJ x) (hs : TRow w s (terms x)) (hT : Tab w) :
    Calls Tryz.prog 24 #[valJ x s] w fun e w' => e = .returned (.string (textJ x)) ∧ Below w.heap.size w w' := by
  have HC := Lib.hid (fun W (h : Below w.heap.size w W) => check_any x s W hf (hs.below h))
  obtain ⟨r, hr⟩ : ∃ r, r = checkJ x := ⟨_, rfl⟩
  rw [← hr] at HC
  by_cases h0 : r = 0
  · obtain ⟨i0, hi, hz0, hz1, hz2⟩ := info_parts infoS
    have hc : checkJ x = 0 := by rw [← hr]; exact h0
    have hB := (checkJ_ok.1 hc).2.1
    obtain ⟨n0, n1, n2⟩ := nums_of hB
    have HE : Hid (textJ x = str (glueC 32 ((wordsJ x).map fun t => t.data.toList))) := Lib.hid (if_pos hc)
    have HV := Lib.hid (fun W (h : Below w.heap.size w W) => text_vec (dem x) hf.dem W (hT.below h))
    have HN := Lib.hid (fun W => numbersOf9 (path x) (am (dem x) 0) (am (dem x) 1) (am (dem x) 2) (am (dem x) 3) (cou x) (pri x) (tik x) s W)
    have HS := Lib.hid (fun W (h : Below w.heap.size w W) => text_sel s (terms x) W (hs.below h) hf.terms)
    have HI := Lib.hid (fun j W (h : Below w.heap.size w W) => itoa_any (numJ x j) (by have := numJ_lt hB j; omega) W (hT.below h))
    have HJ : Hid (∀ v W, SRow W v (wordsJ x) → Calls Tryz.prog 59 #[v, .string ⟨#[32]⟩] W fun e w' => e = .returned (.string (textJ x)) ∧ Below W.heap.size W w') := Lib.hid fun v W h => by
      have hl := textJ_small hf hc
      have := Sel.join_any 32 v (wordsJ x) W h (by rw [wordsJ_eq]; simp) (by omega) (by rw [wordsJ_eq]; simp)
      rw [HE.out]
      exact this
    have HL : Hid (∀ k, (wordsN x k).length = 2 + k) := Lib.hid (wordsN_len x)
    have HWN : Hid (∀ k, wordsN x (k + 1) = wordsN x k ++ [dec (numJ x k)]) := Lib.hid fun k => rfl
    have HW0 : Hid (wordsN x 0 = [path x, textV (dem x)]) := Lib.hid rfl
    have HWJ : Hid (wordsJ x = wordsN x 3 ++ [textS (terms x)]) := Lib.hid rfl
    rw [valJ_eq] at HC ⊢
    rw [n0, n1, n2] at HC HN ⊢
    obtain ⟨TX, hTX⟩ : ∃ TX, TX = textJ x := ⟨_, rfl⟩
    rw [← hTX] at HJ ⊢
    obtain ⟨DD, hDD⟩ : ∃ D : Nat → ByteArray, D = fun j => dec (numJ x j) := ⟨_, rfl⟩
    have hDj : ∀ j, dec (numJ x j) = DD j := fun j => by rw [hDD]
    simp only [hDj] at HI HWN
    obtain ⟨G, hG⟩ : ∃ G, G = numJ x := ⟨_, rfl⟩
    rw [← hG] at HC HN HI ⊢
    obtain ⟨WN, hWN⟩ : ∃ F, F = wordsN x := ⟨_, rfl⟩
    rw [← hWN] at HL HWN HW0 HWJ
    obtain ⟨Z, hZ⟩ : ∃ Z, Z = textS (terms x) := ⟨_, rfl⟩
    rw [← hZ] at HS HWJ
    obtain ⟨PV, hPV⟩ : ∃ PV, PV = textV (dem x) := ⟨_, rfl⟩
    rw [← hPV] at HV HW0
    obtain ⟨p, hp⟩ : ∃ p, p = path x := ⟨_, rfl⟩
    rw [← hp] at HC HN HW0 ⊢
    unfold vecV vec at HV
    obtain ⟨A0, e0⟩ : ∃ a : Int, a = am (dem x) 0 := ⟨_, rfl⟩
    obtain ⟨A1, e1⟩ : ∃ a : Int, a = am (dem x) 1 := ⟨_, rfl⟩
    obtain ⟨A2, e2⟩ : ∃ a : Int, a = am (dem x) 2 := ⟨_, rfl⟩
    obtain ⟨A3, e3⟩ : ∃ a : Int, a = am (dem x) 3 := ⟨_, rfl⟩
    rw [← e0, ← e1, ← e2, ← e3] at HC HV HN ⊢
    clear hr hc hB n0 n1 n2 HE hG hWN hZ hPV hp e0 e1 e2 e3 hs hf hT hTX hDD hDj
    subst h0
    unfold val9 at HC HN ⊢
    go_enter Tryz.func24, Tryz.ntmps24
    go_wp2_with fail
    refine (HC.out _ (grew w _)).mono ?_
    rintro e w1 ⟨rfl, hb1⟩
    have hA : w1.heap[w.heap.size]? = some (box9 p A0 A1 A2 A3 (G 0) (G 1) (G 2) s) := (hb1.block _ (by simp)).trans (heap_alloc_new w _)
    have HB1 := Lib.hid (grows (grew w _) hb1)
    clear hb1
    obtain ⟨⟨c0, c1, c2, c3, c4, c5, c6, c7, c8⟩, _⟩ := cells9 hA
    have HAx := Lib.hid hA
    clear hA c5 c6 c7 c8
    go_upto_region 3 with fail
    go_cut [3] (fun u wr => ∃ w3, Below w1.heap.size w1 w3 ∧ wr = w3.alloc (.cells #[.string p, .string PV] 9) ∧ u = .slice (some ⟨w3.heap.size, 0, none⟩) 2 2)
    case first =>
      have hs0 : Below w1.heap.size w1 w1.drew := (Below.refl _ _).drew
      have hlA := (Array.getElem?_eq_some_iff.1 HAx.out).1
      go_region_held3 (fun z => z.cell? ⟨w.heap.size, 0, none⟩ = some (.string p) ∧ z.cell? ⟨w.heap.size, 1, none⟩ = some (.int .u64 A0) ∧ z.cell? ⟨w.heap.size, 2, none⟩ = some (.int .u64 A1) ∧ z.cell? ⟨w.heap.size, 3, none⟩ = some (.int .u64 A2) ∧ z.cell? ⟨w.heap.size, 4, none⟩ = some (.int .u64 A3))
        (first | exact ⟨c0, c1, c2, c3, c4⟩ | (refine ⟨?_, ?_, ?_, ?_, ?_⟩ <;> assumption) | exact ⟨z0 _, z1 _, z2 _, z3 _, z4 _⟩)
        (first
          | (go_at_call 57; (with_reducible refine (HV.out _ (HB1.out.trans (hs0.mono HB1.out.size))).mono ?_); rintro e w5 ⟨rfl, hb5⟩; have hq5 : Below w1.heap.size w1 w5 := hs0.trans (hb5.mono hs0.size); have q0 := (hq5.cell (p := ⟨w.heap.size, 0, none⟩) (Array.getElem?_eq_some_iff.1 HAx.out).1).trans c0; have q1 := (hq5.cell (p := ⟨w.heap.size, 1, none⟩) (Array.getElem?_eq_some_iff.1 HAx.out).1).trans c1; have q2 := (hq5.cell (p := ⟨w.heap.size, 2, none⟩) (Array.getElem?_eq_some_iff.1 HAx.out).1).trans c2; have q3 := (hq5.cell (p := ⟨w.heap.size, 3, none⟩) (Array.getElem?_eq_some_iff.1 HAx.out).1).trans c3; have q4 := (hq5.cell (p := ⟨w.heap.size, 4, none⟩) (Array.getElem?_eq_some_iff.1 HAx.out).1).trans c4; have z0 : ∀ o, (w5.alloc o).cell? ⟨w.heap.size, 0, none⟩ = some (.string p) := fun o => ((grew w5 o).cell (p := ⟨w.heap.size, 0, none⟩) (Nat.lt_of_lt_of_le hlA hq5.size)).trans q0; have z1 : ∀ o, (w5.alloc o).cell? ⟨w.heap.size, 1, none⟩ = some (.int .u64 A0) := fun o => ((grew w5 o).cell (p := ⟨w.heap.size, 1, none⟩) (Nat.lt_of_lt_of_le hlA hq5.size)).trans q1; have z2 : ∀ o, (w5.alloc o).cell? ⟨w.heap.size, 2, none⟩ = some (.int .u64 A1) := fun o => ((grew w5 o).cell (p := ⟨w.heap.size, 2, none⟩) (Nat.lt_of_lt_of_le hlA hq5.size)).trans q2; have z3 : ∀ o, (w5.alloc o).cell? ⟨w.heap.size, 3, none⟩ = some (.int .u64 A2) := fun o => ((grew w5 o).cell (p := ⟨w.heap.size, 3, none⟩) (Nat.lt_of_lt_of_le hlA hq5.size)).trans q3; have z4 : ∀ o, (w5.alloc o).cell? ⟨w.heap.size, 4, none⟩ = some (.int .u64 A3) := fun o => ((grew w5 o).cell (p := ⟨w.heap.size, 4, none⟩) (Nat.lt_of_lt_of_le hlA hq5.size)).trans q4))
      go_wp2_with fail
      go_meet
      exact ⟨w5, hq5, rfl, rfl⟩
    case rest =>
      obtain ⟨w3, hb3, hwc, hu3⟩ := hcut
      have hown0 : wc.ownsRow w1.heap.size 9 1 u3 (2 + 0) (svals (WN 0)) := by
        rw [hwc, hu3, HW0.out]
        exact own_two w3 w1.heap.size hb3.size p PV
      have hbc : Below w1.heap.size w1 wc := by rw [hwc]; exact hb3.alloc hb3.size _
      have HO0 := Lib.hid hown0
      have hA := (hbc.block _ (Array.getElem?_eq_some_iff.1 HAx.out).1).trans HAx.out
      have HBc := Lib.hid hbc
      clear hwc hu3 hown0 hb3 hbc c0 c1 c2 c3 c4
      obtain ⟨⟨c0, c1, c2, c3, c4, c5, c6, c7, c8⟩, _⟩ := cells9 hA
      clear hA
      go_wp2_with fail
      refine (HN.out _).mono ?_
      rintro e w4 ⟨rfl, hb4⟩
      have HB4 := Lib.hid (HBc.out.trans (hb4.mono HBc.out.size))
      have HO4 := Lib.hid (own_below HO0.out hb4)
      clear hb4 c0 c1 c2 c3 c4 c5 c6 c7 c8 HO0 HBc
      go_wp2_with fail
      go_loopw [3, 17] (fun t i wr => ∃ k : Nat, k ≤ 3 ∧ i = .int .i64 k ∧ wr.ownsRow w1.heap.size 9 1 t (2 + k) (svals (WN k)) ∧ Below w1.heap.size w1 wr) (fun _ i _ => 3 - (intOf i).toNat)
      case atStart => exact ⟨0, Nat.zero_le _, rfl, HO4.out, HB4.out⟩
      case round =>
        obtain ⟨k, hk, rfl, hown, hbr⟩ := hrel
        by_cases hlt : k < 3
        · have hltz : (k : Int) < 3 := by omega
          have hix := index3_any G k hlt
          have HX := Lib.hid (fun W (h : Below w.heap.size w W) => HI.out k W h)
          obtain ⟨fx, hfx⟩ : ∃ f, f = DD k := ⟨_, rfl⟩
          have HT : Hid (WN (k + 1) = WN k ++ [fx]) := Lib.hid (by rw [hfx]; exact HWN.out k)
          rw [← hfx] at HX
          clear hfx
          go_wp2_with fail
          with_reducible refine (HX.out _ (HB1.out.trans (hbr.mono HB1.out.size))).mono ?_
          rintro e w5 ⟨rfl, hb5⟩
          have hbA := hbr.trans (hb5.mono hbr.size)
          have hownA := own_below hown hb5
          clear hown hb5
          go_wp2_with (at_builtin; refine wpList_append_own _ rfl _ _ 28 rfl w1.heap.size 9 i0 (.string ByteArray.empty) 1 16 Tryz.underlying28 hi hz0 hz1 hz2 rfl (by decide) _ _ _ rfl (hownA.alloc _) ⟨w5.heap.size, 0, none⟩ 1 1 [.string fx] rfl rfl ?c1 ?c2 ?c3 ?c4 ?c5 ?_)
          case c1 => exact cell_one_new _ _ _
          case c2 => first | rfl | (intro u hu; simp at hu; subst hu; rfl)
          case c3 => unfold maxLen; omega
          case c4 => omega
          case c5 => have := hbA.size; simp; omega
          intro v' w6 hown' hgrow _
          have hown6 : w6.ownsRow w1.heap.size 9 1 v' (2 + (k + 1)) (svals (WN (k + 1))) := by rw [HT.out, svals_snoc]; exact hown'
          have hb6 : Below w1.heap.size w1 w6 := (hbA.alloc hbA.size _).grown hgrow (by have := hbA.size; simp; omega) (fun k hk => (hownA.lt k hk).1)
          clear hown' hgrow hownA hbA
          go_wp2
          go_roundw
          case rel => exact ⟨k + 1, by omega, by go_num, hown6, hb6⟩
          case measure => simp [intOf]; omega
        · have hk3 : k = 3 := by omega
          subst hk3
          have hA := (hbr.block _ (Array.getElem?_eq_some_iff.1 HAx.out).1).trans HAx.out
          obtain ⟨⟨c0, c1, c2, c3, c4, c5, c6, c7, c8⟩, _⟩ := cells9 hA
          clear hA
          go_wp2_with fail
          with_reducible refine (HS.out _ (HB1.out.trans (hbr.mono HB1.out.size))).mono ?_
          rintro e w5 ⟨rfl, hb5⟩
          have hbA := hbr.trans (hb5.mono hbr.size)
          have hownA := own_below hown hb5
          clear hown hb5 c0 c1 c2 c3 c4 c5 c6 c7 c8
          go_wp2_with (at_builtin; refine wpList_append_own _ rfl _ _ 28 rfl w1.heap.size 9 i0 (.string ByteArray.empty) 1 16 Tryz.underlying28 hi hz0 hz1 hz2 rfl (by decide) _ _ _ rfl (hownA.alloc _) ⟨w5.heap.size, 0, none⟩ 1 1 [.string Z] rfl rfl ?c1 ?c2 ?c3 ?c4 ?c5 ?_)
          case c1 => exact cell_one_new _ _ _
          case c2 => first | rfl | (intro u hu; simp at hu; subst hu; rfl)
          case c3 => unfold maxLen; omega
          case c4 => omega
          case c5 => have := hbA.size; simp; omega
          intro v' w6 hown' hgrow _
          have hsr : SRow w6 v' (wordsJ x) := by
            refine own_srow (T := 9) (B := w1.heap.size) ?_
            rw [HWJ.out, svals_snoc, List.length_append, HL.out]
            exact hown'
          have hb6 : Below w1.heap.size w1 w6 := (hbA.alloc hbA.size _).grown hgrow (by have := hbA.size; simp; omega) (fun k hk => (hownA.lt k hk).1)
          have HJ2 := Lib.hid (HJ.out _ w6 hsr)
          clear hown' hgrow hownA hbA hsr
          go_wp2_with fail
          with_reducible refine HJ2.out.mono ?_
          rintro e w7 ⟨rfl, hb7⟩
          go_wp2
          go_ret
          exact ⟨rfl, (HB1.out.trans (hb6.mono HB1.out.size)).trans (hb7.mono (Nat.le_trans HB1.out.size hb6.size))⟩
  · have HE : Hid (textJ x = ⟨#[63]⟩) := Lib.hid (if_neg (by rw [← hr]; exact h0))
    have hne : (r != 0) = true := by simpa using h0
    have hne' : (r == 0) = false := by simpa using h0
    rw [valJ_eq] at HC ⊢
    obtain ⟨Z, hZ⟩ : ∃ Z, Z = textJ x := ⟨_, rfl⟩
    rw [← hZ] at HE ⊢
    clear hr hZ hs hf
    unfold val9 at HC ⊢
    go_enter Tryz.func24, Tryz.ntmps24
    go_wp2_with fail
    refine (HC.out _ (grew w _)).mono ?_
    rintro e w1 ⟨rfl, hb1⟩
    have hb' := grows (grew w _) hb1
    clear hb1
    go_wp2
    go_ret
    exact ⟨by rw [HE.out]; rfl, hb'⟩
end Go.Proofs.YtbilkeadhflibaaGreatDoor.Job

/- What is put of a job that may be is got, what is got is put as it stands, what is shown is parsed, what is parsed is shown as it was (P11.4): no program. -/
namespace Go.Proofs.YtbilkeadhflibaaGreatDoor.Job
open Go.RowKit Go.Proofs.YtbilkeadhflibaaGreatDoor.Wire Go.Proofs.YtbilkeadhflibaaGreatDoor.Vec Go.Proofs.YtbilkeadhflibaaGreatDoor.Sel Go.Proofs.YtbilkeadhflibaaGreatDoor.Forms

/-! ### bytes -/
theorem putV_split (xs : Nat → Nat) : ∀ (N k : Nat), k < N → ∃ t, putV xs N = putV xs k ++ (putL (xs k) ++ t)
  | 0, k, h => absurd h (by omega)
  | N + 1, k, h => by
    by_cases hk : k = N
    · subst hk
      exact ⟨[], by rw [List.append_nil]; rfl⟩
    · obtain ⟨t, ht⟩ := putV_split xs N k (by omega)
      refine ⟨t ++ putL (xs N), ?_⟩
      show putV xs N ++ putL (xs N) = _
      rw [ht, List.append_assoc, List.append_assoc]
theorem chain_at {l : List UInt8} {q : Nat} {xs : Nat → Nat} {N : Nat} {r : List UInt8} (hx : ∀ k, k < N → xs k < 18446744073709551616) (h : l.drop q = putV xs N ++ r) :
    ∀ k, k < N → getV l ((q + (putV xs k).length : Nat) : Int) = some (xs k, q + (putV xs k).length + (putL (xs k)).length) := fun k hk => by
  obtain ⟨t, ht⟩ := putV_split xs N k hk
  refine getV_of ⟨hx k hk, t ++ r, ?_⟩
  rw [← List.drop_drop, h, ht, List.append_assoc, List.append_assoc, List.drop_left]
theorem pos_at {l : List UInt8} {q : Nat} {xs : Nat → Nat} {N : Nat} {r : List UInt8} (hx : ∀ k, k < N → xs k < 18446744073709551616) (h : l.drop q = putV xs N ++ r) :
    ∀ k, k ≤ N → posAt l q k = ((q + (putV xs k).length : Nat) : Int)
  | 0, _ => rfl
  | k + 1, hk => by
    have ih := pos_at hx h k (by omega)
    show (match getV l (posAt l q k) with | some x => (x.2 : Int) | none => 0) = _
    rw [ih, chain_at hx h k (by omega)]
    show ((q + (putV xs k).length + (putL (xs k)).length : Nat) : Int) = ((q + (putV xs k ++ putL (xs k)).length : Nat) : Int)
    rw [List.length_append, Nat.add_assoc]
theorem val_at {l : List UInt8} {q : Nat} {xs : Nat → Nat} {N : Nat} {r : List UInt8} (hx : ∀ k, k < N → xs k < 18446744073709551616) (h : l.drop q = putV xs N ++ r) (k : Nat) (hk : k < N) :
    okAt l q k = true ∧ valN l q k = xs k := by
  have hp := pos_at hx h k (by omega)
  have hc := chain_at hx h k hk
  unfold okAt valN
  rw [hp, hc]
  exact ⟨rfl, rfl⟩
theorem textV_put {l : List UInt8} {p m : Nat} {t : ByteArray} {r : List UInt8} (ht : t.size ≤ m) (hm : m < 18446744073709551616) (h : l.drop p = flat t ++ r) :
    Wire.textV l (p : Int) (m : Int) = some (p + (putL t.size).length, p + (flat t).length) := by
  have hs : Stands t.size (l.drop p) := ⟨by omega, t.data.toList ++ r, by rw [h, flat, List.append_assoc]⟩
  have hlen := congrArg List.length h
  have hpos := putL_pos t.size
  have hf := flat_len t
  rw [List.length_drop, List.length_append, hf] at hlen
  unfold Wire.textV
  rw [getV_of hs]
  simp only
  rw [if_neg (by omega), hf, Nat.add_assoc]

theorem accJ_list (x : Jb) : ∀ k, (accJ x k).data.toList = flat (path x) ++ (putV (am (dem x)) 4 ++ putV (numJ x) k)
  | 0 => by
    show (baseJ x).data.toList = _
    unfold baseJ
    rw [app_list, app_list, str_data_list, str_data_list]
    show _ = flat (path x) ++ (putV (am (dem x)) 4 ++ [])
    rw [List.append_nil]
    rfl
  | k + 1 => by
    show (accJ x k ++ str (putL (numJ x k))).data.toList = _
    rw [app_list, accJ_list x k, str_data_list]
    show _ = flat (path x) ++ (putV (am (dem x)) 4 ++ (putV (numJ x) k ++ putL (numJ x k)))
    rw [List.append_assoc, List.append_assoc]
theorem putJ_list {x : Jb} (h : checkJ x = 0) : (putJ x).data.toList = flat (path x) ++ (putV (am (dem x)) 4 ++ (putV (numJ x) 3 ++ (putS (terms x)).data.toList)) := by
  rw [putJ_yes h, app_list, accJ_list, List.append_assoc, List.append_assoc]

/-- What is put of a job that may be is got where it stands. -/
theorem getJ_put {s : ByteArray} {p : Nat} {x : Jb} {r : List UInt8} (hx : checkJ x = 0) (hf : FairJ x) (h : s.data.toList.drop p = (putJ x).data.toList ++ r) :
    getJ s (p : Int) = some (x, ((p + (putJ x).size : Nat) : Int)) := by
  obtain ⟨_, hB, hR, _⟩ := checkJ_ok.1 hx
  have hz := congrArg List.length (putJ_list hx)
  rw [size_list, List.length_append, List.length_append, List.length_append] at hz
  rw [putJ_list hx, List.append_assoc, List.append_assoc, List.append_assoc] at h
  have ht := textV_put (m := 98) (path_len hx) (by omega) h
  have hext := extract_of h
  have h2 : s.data.toList.drop (p + (flat (path x)).length) = putV (am (dem x)) 4 ++ (putV (numJ x) 3 ++ ((putS (terms x)).data.toList ++ r)) := by rw [← List.drop_drop, h, List.drop_left]
  have hp4 := pos_at (N := 4) hf.dem h2 4 (Nat.le_refl _)
  have hv := val_at (N := 4) hf.dem h2
  have h3 : s.data.toList.drop (p + (flat (path x)).length + (putV (am (dem x)) 4).length) = putV (numJ x) 3 ++ ((putS (terms x)).data.toList ++ r) := by rw [← List.drop_drop, h2, List.drop_left]
  have hn : ∀ k, k < 3 → numJ x k < 18446744073709551616 := fun k _ => by have := numJ_lt hB k; omega
  have hp3 := pos_at (N := 3) hn h3 3 (Nat.le_refl _)
  have hv3 := val_at (N := 3) hn h3
  have h4 : s.data.toList.drop (p + (flat (path x)).length + (putV (am (dem x)) 4).length + (putV (numJ x) 3).length) = (putS (terms x)).data.toList ++ r := by rw [← List.drop_drop, h3, List.drop_left]
  have hg := Sel.get_put hR h4
  have hgood : ∀ k, k < 3 → good (valN s.data.toList ((p + (flat (path x)).length + (putV (am (dem x)) 4).length : Nat) : Int)) (okAt s.data.toList ((p + (flat (path x)).length + (putV (am (dem x)) 4).length : Nat) : Int)) k = true := fun k hk => by
    unfold good
    rw [(hv3 k hk).1, (hv3 k hk).2, decide_eq_true (numJ_lt hB k)]
    rfl
  obtain ⟨n0, n1, n2⟩ := nums_of hB
  unfold getJ fieldsJ
  have ht' : Wire.textV s.data.toList (p : Int) 98 = some (p + (putL (path x).size).length, p + (flat (path x)).length) := ht
  rw [ht']
  dsimp only
  rw [if_pos (all4 (fun k hk => (hv k hk).1)), hp4, if_pos (all3 hgood), hp3, hg]
  dsimp only
  have e : (s.extract (p + (putL (path x).size).length) (p + (flat (path x)).length), (valN s.data.toList ((p + (flat (path x)).length : Nat) : Int) 0, valN s.data.toList ((p + (flat (path x)).length : Nat) : Int) 1, valN s.data.toList ((p + (flat (path x)).length : Nat) : Int) 2, valN s.data.toList ((p + (flat (path x)).length : Nat) : Int) 3),
      ((valN s.data.toList ((p + (flat (path x)).length + (putV (am (dem x)) 4).length : Nat) : Int) 0 : Int), (valN s.data.toList ((p + (flat (path x)).length + (putV (am (dem x)) 4).length : Nat) : Int) 1 : Int), (valN s.data.toList ((p + (flat (path x)).length + (putV (am (dem x)) 4).length : Nat) : Int) 2 : Int)), terms x) = x := by
    refine jb_ext hext (am_ext fun k hk => ?_) ?_ ?_ ?_ rfl
    · rcases lt4 hk with rfl | rfl | rfl | rfl
      · exact (hv 0 (by omega)).2
      · exact (hv 1 (by omega)).2
      · exact (hv 2 (by omega)).2
      · exact (hv 3 (by omega)).2
    · rw [n0]
      show (valN _ _ 0 : Int) = _
      rw [(hv3 0 (by omega)).2]
    · rw [n1]
      show (valN _ _ 1 : Int) = _
      rw [(hv3 1 (by omega)).2]
    · rw [n2]
      show (valN _ _ 2 : Int) = _
      rw [(hv3 2 (by omega)).2]
  rw [e, if_pos hx]
  congr 2
  rw [← size_list (putS (terms x))]
  omega
theorem putJ_inj {x y : Jb} (hx : checkJ x = 0) (hy : checkJ y = 0) (fx : FairJ x) (fy : FairJ y) (h : putJ x = putJ y) : x = y := by
  have g1 := getJ_put (s := putJ x) (p := 0) (r := []) hx fx (by simp)
  have g2 := getJ_put (s := putJ y) (p := 0) (r := []) hy fy (by simp)
  rw [h, g2] at g1
  simp only [Option.some.injEq, Prod.mk.injEq] at g1
  exact g1.1.symm
theorem putJ_pos {x : Jb} (h : checkJ x = 0) : 0 < (putJ x).size := by
  have h1 := congrArg List.length (putJ_list h)
  have h2 := putL_pos (path x).size
  rw [size_list, List.length_append, flat_len] at h1
  omega
theorem putJ_small {x : Jb} (hf : FairJ x) (h : checkJ x = 0) : (putJ x).size ≤ 1400 := by
  obtain ⟨_, hB, hR, _⟩ := checkJ_ok.1 h
  have h1 := accJ_size hf hB 3 (Nat.le_refl _)
  have h2 := path_len h
  have h3 := putS_small (terms x)
  rw [putJ_yes h, size_app]
  omega

/-! ### words -/
theorem dec_free32 (u : Nat) : (32 : UInt8) ∉ Lib.decDigits u := dec_free (.inl (by decide))
/-- What is shown of a job that may be is parsed. -/
theorem parseJ_words {x : Jb} (hx : checkJ x = 0) (hf : FairJ x) : parseJ (wordsJ x) = some x := by
  obtain ⟨_, hB, hR, _⟩ := checkJ_ok.1 hx
  obtain ⟨n0, n1, n2⟩ := nums_of hB
  have hn : ∀ k, numL (dec (numJ x k)) = some (numJ x k) := fun k => numL_dec (by have := numJ_lt hB k; omega)
  have e0 : (wordsJ x).getD 0 ⟨#[]⟩ = path x := rfl
  have e1 : (wordsJ x).getD 1 ⟨#[]⟩ = textV (dem x) := rfl
  have e2 : (wordsJ x).getD (2 + 0) ⟨#[]⟩ = dec (numJ x 0) := rfl
  have e3 : (wordsJ x).getD (2 + 1) ⟨#[]⟩ = dec (numJ x 1) := rfl
  have e4 : (wordsJ x).getD (2 + 2) ⟨#[]⟩ = dec (numJ x 2) := rfl
  have e5 : (wordsJ x).getD 5 ⟨#[]⟩ = textS (terms x) := rfl
  have w0 : numW (wordsJ x) 0 = numJ x 0 := by unfold numW; rw [e2, hn]; rfl
  have w1 : numW (wordsJ x) 1 = numJ x 1 := by unfold numW; rw [e3, hn]; rfl
  have w2 : numW (wordsJ x) 2 = numJ x 2 := by unfold numW; rw [e4, hn]; rfl
  have g0 : good (numW (wordsJ x)) (okW (wordsJ x)) 0 = true := by
    unfold good okW
    rw [w0, e2, hn, decide_eq_true (numJ_lt hB 0)]
    rfl
  have g1 : good (numW (wordsJ x)) (okW (wordsJ x)) 1 = true := by
    unfold good okW
    rw [w1, e3, hn, decide_eq_true (numJ_lt hB 1)]
    rfl
  have g2 : good (numW (wordsJ x)) (okW (wordsJ x)) 2 = true := by
    unfold good okW
    rw [w2, e4, hn, decide_eq_true (numJ_lt hB 2)]
    rfl
  have h6 : (wordsJ x).length = 6 := rfl
  unfold parseJ parseF
  rw [if_pos h6, e1, vecP_text hf.dem]
  dsimp only
  rw [if_pos (by rw [g0, g1, g2]; rfl), e5, Sel.parse_text hR, e0, w0, w1, w2]
  dsimp only
  have e : (path x, dem x, ((numJ x 0 : Int), (numJ x 1 : Int), (numJ x 2 : Int)), terms x) = x := jb_ext rfl rfl n0.symm n1.symm n2.symm rfl
  rw [e, if_pos hx]
/-- What is parsed may be, and is shown as these words. -/
theorem parseJ_back {ws : List ByteArray} {x : Jb} (h : parseJ ws = some x) : checkJ x = 0 ∧ wordsJ x = ws := by
  unfold parseJ at h
  split at h
  · cases h
  rename_i y hy
  split at h
  · rename_i hc
    injection h with h
    subst h
    refine ⟨hc, ?_⟩
    unfold parseF at hy
    split at hy
    · rename_i h6
      split at hy
      · cases hy
      · rename_i v hv
        split at hy
        · rename_i hg
          split at hy
          · cases hy
          · rename_i ls hl
            injection hy with hy
            have hok : ∀ j, good (numW ws) (okW ws) j = true → dec (numW ws j) = ws.getD (2 + j) ⟨#[]⟩ := fun j hj => by
              unfold good okW at hj
              rw [Bool.and_eq_true] at hj
              unfold numW
              cases hn : numL (ws.getD (2 + j) ⟨#[]⟩) with
              | none => rw [hn] at hj; exact absurd hj.1 (by simp)
              | some u => exact (numL_some hn).1
            rw [Bool.and_eq_true, Bool.and_eq_true] at hg
            have d0 := hok 0 hg.1
            have d1 := hok 1 hg.2.1
            have d2 := hok 2 hg.2.2
            have dv := (vecP_some hv).2
            have dl := (Sel.parse_back hl).2
            rw [wordsJ_eq]
            subst hy
            match ws, h6 with
            | [a, b, c, d, e, f], _ =>
              have q0 : numJ (([a, b, c, d, e, f] : List ByteArray).getD 0 ⟨#[]⟩, v, ((numW [a, b, c, d, e, f] 0 : Int), (numW [a, b, c, d, e, f] 1 : Int), (numW [a, b, c, d, e, f] 2 : Int)), ls) 0 = numW [a, b, c, d, e, f] 0 := Int.toNat_natCast _
              have q1 : numJ (([a, b, c, d, e, f] : List ByteArray).getD 0 ⟨#[]⟩, v, ((numW [a, b, c, d, e, f] 0 : Int), (numW [a, b, c, d, e, f] 1 : Int), (numW [a, b, c, d, e, f] 2 : Int)), ls) 1 = numW [a, b, c, d, e, f] 1 := Int.toNat_natCast _
              have q2 : numJ (([a, b, c, d, e, f] : List ByteArray).getD 0 ⟨#[]⟩, v, ((numW [a, b, c, d, e, f] 0 : Int), (numW [a, b, c, d, e, f] 1 : Int), (numW [a, b, c, d, e, f] 2 : Int)), ls) 2 = numW [a, b, c, d, e, f] 2 := Int.toNat_natCast _
              rw [q0, q1, q2, d0, d1, d2]
              show [a, textV v, c, d, e, textS ls] = _
              rw [dv, dl]
              rfl
        · cases hy
    · cases hy
  · cases h
end Go.Proofs.YtbilkeadhflibaaGreatDoor.Job

/- The chapter's examples, reckoned: no program. -/
namespace Go.Proofs.YtbilkeadhflibaaGreatDoor.Job
open Go.RowKit Go.Proofs.YtbilkeadhflibaaGreatDoor.Wire Go.Proofs.YtbilkeadhflibaaGreatDoor.Vec Go.Proofs.YtbilkeadhflibaaGreatDoor.Sel Go.Proofs.YtbilkeadhflibaaGreatDoor.Forms

def x0 : Jb := (⟨#[116, 101, 97, 109, 47, 97]⟩, (1, 2, 0, 0), (3, 5, 9), [(⟨#[122, 111, 110, 101]⟩, false, [⟨#[98]⟩])])
/-- The job whose amounts are too great. -/
def x1 : Jb := (⟨#[116, 101, 97, 109, 47, 97]⟩, (9223372036854775808, 0, 0, 0), (3, 5, 9), [(⟨#[122, 111, 110, 101]⟩, false, [⟨#[98]⟩])])
def xA : Jb := (⟨#[97]⟩, (0, 0, 0, 0), (0, 0, 0), [])
def ws0 : List ByteArray := [⟨#[116, 101, 97, 109, 47, 97]⟩, ⟨#[49, 58, 50, 58, 48, 58, 48]⟩, ⟨#[51]⟩, ⟨#[53]⟩, ⟨#[57]⟩, ⟨#[122, 111, 110, 101, 61, 98]⟩]
def ws1 : List ByteArray := [⟨#[116, 101, 97, 109, 47, 97]⟩, ⟨#[49, 58, 50, 58, 48, 58, 48]⟩, ⟨#[48, 51]⟩, ⟨#[53]⟩, ⟨#[57]⟩, ⟨#[45]⟩]
theorem dec_one {i : Nat} (h : i < 10) : dec i = str [UInt8.ofNat (48 + i)] := by unfold dec; rw [Lib.decDigits_one h]
theorem text_ex : textV (1, 2, 0, 0) = ⟨#[49, 58, 50, 58, 48, 58, 48]⟩ := by
  refine list_eq_of_toList ?_
  rw [ByteArray.toList_eq, ByteArray.toList_eq, textV_list]
  show glueC 58 [Lib.decDigits 1, Lib.decDigits 2, Lib.decDigits 0, Lib.decDigits 0] = _
  rw [Lib.decDigits_one (by omega), Lib.decDigits_one (by omega), Lib.decDigits_one (by omega)]
  decide
theorem total0 : totalJ x0 = some (3, 6, 0, 0) := by decide +kernel
theorem check0 : checkJ x0 = 0 := by decide +kernel
theorem check1 : checkJ x1 = 5 := by decide +kernel
theorem checkA : checkJ xA = 1 := by decide +kernel
theorem words0 : wordsJ x0 = ws0 := by
  rw [wordsJ_eq]
  have e1 : textV (dem x0) = ⟨#[49, 58, 50, 58, 48, 58, 48]⟩ := text_ex
  have e2 : dec (numJ x0 0) = ⟨#[51]⟩ := dec_one (i := 3) (by omega)
  have e3 : dec (numJ x0 1) = ⟨#[53]⟩ := dec_one (i := 5) (by omega)
  have e4 : dec (numJ x0 2) = ⟨#[57]⟩ := dec_one (i := 9) (by omega)
  have e5 : textS (terms x0) = ⟨#[122, 111, 110, 101, 61, 98]⟩ := by decide +kernel
  rw [e1, e2, e3, e4, e5]
  rfl
theorem fair_terms : Sel.Fair (terms x0) := fair_right (by decide +kernel)
theorem fair_pow (a b c d : Nat) (h : a < 18446744073709551616 ∧ b < 18446744073709551616 ∧ c < 18446744073709551616 ∧ d < 18446744073709551616) : fair4 (a, b, c, d) := fun k hk => by
  rcases lt4 hk with rfl | rfl | rfl | rfl
  · exact h.1
  · exact h.2.1
  · exact h.2.2.1
  · exact h.2.2.2
theorem fair0 : FairJ x0 := ⟨by decide, fair_pow _ _ _ _ (by decide), fair_terms⟩
theorem fair1 : FairJ x1 := ⟨by decide, fair_pow _ _ _ _ (by decide), fair_terms⟩
theorem fairA : FairJ xA := ⟨by decide, fair_pow _ _ _ _ (by decide), fair_right (by decide +kernel)⟩
theorem fairN : FairJ nilJ := ⟨by decide, fair_pow _ _ _ _ (by decide), fair_right (by decide +kernel)⟩
theorem parse0 : parseJ ws0 = some x0 := by rw [← words0]; exact parseJ_words check0 fair0
theorem parse1 : parseJ ws1 = none := by
  cases h : parseJ ws1 with
  | none => rfl
  | some x =>
    exfalso
    have hb := (parseJ_back h).2
    have hc := (parseJ_back h).1
    obtain ⟨_, hB, _, _⟩ := checkJ_ok.1 hc
    rw [wordsJ_eq] at hb
    unfold ws1 at hb
    injection hb with _ hb
    injection hb with _ hb
    injection hb with hb _
    have h3 := numL_dec (u := numJ x 0) (by have := numJ_lt hB 0; omega)
    rw [hb] at h3
    have h4 : readU ⟨#[48, 51]⟩ = some 3 := by decide +kernel
    have h5 : dec 3 ≠ ⟨#[48, 51]⟩ := by rw [dec_one (by omega)]; decide +kernel
    unfold numL at h3
    rw [h4] at h3
    dsimp only at h3
    rw [if_neg h5] at h3
    cases h3
theorem textJ0 : textJ x0 = ⟨#[116, 101, 97, 109, 47, 97, 32, 49, 58, 50, 58, 48, 58, 48, 32, 51, 32, 53, 32, 57, 32, 122, 111, 110, 101, 61, 98]⟩ := by
  unfold textJ
  rw [if_pos check0, words0]
  decide +kernel
theorem same01 : decide (x0 = x1) = false := by decide +kernel
end Go.Proofs.YtbilkeadhflibaaGreatDoor.Job

/- The chapter's examples are so: the walk of the law's examples. -/
namespace Go.Proofs.YtbilkeadhflibaaGreatDoor.Job
open Go.RowKit Go.Proofs.YtbilkeadhflibaaGreatDoor.Wire Go.Proofs.YtbilkeadhflibaaGreatDoor.Vec Go.Proofs.YtbilkeadhflibaaGreatDoor.Sel Go.Proofs.YtbilkeadhflibaaGreatDoor.Texts

/-- These blocks lie so. -/
def AllB (l : List (Nat × Obj)) (w : World) : Prop := ∀ x ∈ l, w.heap[x.1]? = some x.2
theorem AllB.nil (w : World) : AllB [] w := fun x h => by cases h
theorem AllB.get {l : List (Nat × Obj)} {w : World} (h : AllB l w) (n : Nat) {k : Nat} {o : Obj} (hx : l[n]? = some (k, o)) : w.heap[k]? = some o := h (k, o) (List.mem_of_getElem? hx)
theorem AllB.more {l : List (Nat × Obj)} {w w' : World} (h : AllB l w) (hb : Below w.heap.size w w') : AllB l w' := fun x hx => (hb.block _ (Array.getElem?_eq_some_iff.1 (h x hx)).1).trans (h x hx)
theorem AllB.cons {l : List (Nat × Obj)} {w : World} {k : Nat} {o : Obj} (hk : w.heap[k]? = some o) (h : AllB l w) : AllB ((k, o) :: l) w := fun x hx => by
  rcases List.mem_cons.1 hx with rfl | hx
  · exact hk
  · exact h x hx
theorem AllB.new {l : List (Nat × Obj)} {w : World} (h : AllB l w) (o : Obj) : AllB ((w.heap.size, o) :: l) (w.alloc o) := AllB.cons (heap_alloc_new _ _) (h.more (grew w o))
def p0 : ByteArray := ⟨#[116, 101, 97, 109, 47, 97]⟩
theorem val_x0 (v : Value) : valJ x0 v = val9 p0 1 2 0 0 3 5 9 v := rfl
theorem val_x1 (v : Value) : valJ x1 v = val9 p0 9223372036854775808 0 0 0 3 5 9 v := rfl
theorem val_xA (v : Value) : valJ xA v = val9 ⟨#[97]⟩ 0 0 0 0 0 0 0 v := rfl
theorem val_nil (v : Value) : valJ nilJ v = val9 ⟨#[]⟩ 0 0 0 0 0 0 0 v := rfl
theorem srow_six (w : World) (a b c d e f : ByteArray) : SRow (w.alloc (.cells #[.string a, .string b, .string c, .string d, .string e, .string f] 9)) (.slice (some ⟨w.heap.size, 0, none⟩) 6 6) [a, b, c, d, e, f] := by
  refine .inr ⟨by simp, w.heap.size, 0, 6, rfl, by simp, Nat.le_refl _, by unfold maxLen; omega, fun j t hj => ?_⟩
  have hc : (w.alloc (.cells #[.string a, .string b, .string c, .string d, .string e, .string f] 9)).heap[w.heap.size]? = some (.cells #[.string a, .string b, .string c, .string d, .string e, .string f] 9) := heap_alloc_new _ _
  have h6 : j < 6 := by
    have := (List.getElem?_eq_some_iff.1 hj).1
    simpa using this
  rw [Nat.zero_add]
  have : j = 0 ∨ j = 1 ∨ j = 2 ∨ j = 3 ∨ j = 4 ∨ j = 5 := by omega
  rcases this with rfl | rfl | rfl | rfl | rfl | rfl <;> (simp at hj; subst hj; exact cell_at hc rfl)
theorem getJ_x {s : ByteArray} (h : s = ⟨#[120]⟩ ++ putJ x0) : getJ s 1 = some (x0, ((1 + (putJ x0).size : Nat) : Int)) := by
  subst h
  exact getJ_put (p := 1) (r := []) check0 fair0 (by rw [app_list, List.append_nil]; rfl)

set_option maxRecDepth 100000 in
set_option maxHeartbeats 16000000 in
theorem examples_any (w : World) (hR : Roots w) :
    Calls Tryz.prog 9 #[] w fun e w' => e = .returned (.bool true) ∧ Below w.heap.size w w' := by
  have HRt := Lib.hid hR
  have HP0 := Lib.hid (fun W (h : Below w.heap.size w W) v (hv : SRow W v ws0) => parse_jb ws0 v W hv (by unfold ws0; decide) (hR.below h))
  have HP1 := Lib.hid (fun W (h : Below w.heap.size w W) v (hv : SRow W v ws1) => parse_jb ws1 v W hv (by unfold ws1; decide) (hR.below h))
  rw [parse0] at HP0
  rw [parse1] at HP1
  have HTo := Lib.hid (fun W s => total_any x0 fair0.dem s W)
  rw [total0] at HTo
  simp only [val_x0] at HTo
  have HPu := Lib.hid (fun W s (h : TRow W s (terms x0)) => put_jb x0 s W fair0 h)
  simp only [val_x0] at HPu
  have HTe := Lib.hid (fun W s (h : Below w.heap.size w W) (h2 : TRow W s (terms x0)) => text_jb x0 s W fair0 h2 (hR.tab.below h))
  rw [textJ0] at HTe
  simp only [val_x0] at HTe
  have HCh := Lib.hid (fun W s (h : TRow W s (terms x0)) => check_any x0 s W fair0 h)
  rw [check0] at HCh
  simp only [val_x0] at HCh
  have HC1 := Lib.hid (fun W s (h : TRow W s (terms x0)) => check_any x1 s W fair1 h)
  rw [check1] at HC1
  simp only [val_x1] at HC1
  have HCA := Lib.hid (fun W => check_any xA (.slice none 0 0) W fairA (TRow.nil W))
  rw [checkA] at HCA
  simp only [val_xA] at HCA
  have HCN := Lib.hid (fun W => check_any nilJ (.slice none 0 0) W fairN (TRow.nil W))
  rw [checkJ_nil] at HCN
  simp only [val_nil] at HCN
  have HSa := Lib.hid (fun W u v (h1 : TRow W u (terms x0)) (h2 : TRow W v (terms x0)) => same_any x0 x0 u v W h1 h2 fair0.terms)
  simp only [val_x0, decide_true] at HSa
  have HSb := Lib.hid (fun W u v (h1 : TRow W u (terms x0)) (h2 : TRow W v (terms x0)) => same_any x0 x1 u v W h1 h2 fair0.terms)
  rw [same01] at HSb
  simp only [val_x0, val_x1] at HSb
  obtain ⟨PX, hPX⟩ : ∃ PX, PX = putJ x0 := ⟨_, rfl⟩
  have hsm : PX.size ≤ 1400 := by rw [hPX]; exact putJ_small fair0 check0
  have HG := Lib.hid (fun W (h : Below w.heap.size w W) => get_jb (⟨#[120]⟩ ++ putJ x0) (by rw [← hPX, size_app]; have : (⟨#[120]⟩ : ByteArray).size = 1 := rfl; omega) 1 W (hR.err.below h))
  rw [getJ_x rfl] at HG
  rw [← hPX] at HPu HG
  clear hPX hR
  obtain ⟨TXT, hTXT⟩ : ∃ T : ByteArray, T = ⟨#[116, 101, 97, 109, 47, 97, 32, 49, 58, 50, 58, 48, 58, 48, 32, 51, 32, 53, 32, 57, 32, 122, 111, 110, 101, 61, 98]⟩ := ⟨_, rfl⟩
  go_enter Tryz.func9, Tryz.ntmps9
  go_wp2_with fail
  refine (HP0.out _ (grew w _) _ (srow_six w _ _ _ _ _ _)).mono ?_
  rintro e w1 ⟨⟨v, he, hrow⟩, hb1⟩
  rw [val_x0] at he
  subst he
  obtain ⟨sa, sc, rfl, _, _⟩ := hrow.slice
  have HB1 := Lib.hid (grows (grew w _) hb1)
  have hl1 : (terms x0).length = 1 := rfl
  rw [hl1] at hrow ⊢
  have HRow := Lib.hid hrow
  clear hb1 hrow hl1
  obtain ⟨P, hP⟩ : ∃ P, P = p0 := ⟨_, rfl⟩
  rw [← hP] at HTo HPu HTe HCh HC1 HSa HSb ⊢
  have hP0 := hP.symm
  clear hP
  unfold val9
  have hA1 : AllB [(w1.heap.size, box9 P 1 2 0 0 3 5 9 (.slice sa 1 sc))] (w1.alloc (box9 P 1 2 0 0 3 5 9 (.slice sa 1 sc))) := (AllB.nil w1).new _
  have hR1 : TRow (w1.alloc (box9 P 1 2 0 0 3 5 9 (.slice sa 1 sc))) (.slice sa 1 sc) (terms x0) := HRow.out.below (grew w1 _)
  have hB1 : Below w.heap.size w (w1.alloc (box9 P 1 2 0 0 3 5 9 (.slice sa 1 sc))) := grows HB1.out (grew w1 _)
  obtain ⟨B1, hb1⟩ : ∃ B, B = w1.heap.size := ⟨_, rfl⟩
  rw [← hb1] at hA1
  unfold box9 at hA1 hR1 hB1
  go_upto_region 2 with fail
  rw [← hb1]
  clear hb1
  obtain ⟨W1, hW1⟩ : ∃ W, W = w1.alloc (.cells #[.string P, .int .u64 1, .int .u64 2, .int .u64 0, .int .u64 0, .int .i64 3, .int .i64 5, .int .i64 9, .slice sa 1 sc] 27) := ⟨_, rfl⟩
  rw [← hW1] at hA1 hR1 hB1 ⊢
  have HA := Lib.hid hA1
  have HR := Lib.hid hR1
  have HB := Lib.hid hB1
  clear hW1 hA1 hR1 hB1 HRow HB1 HP0
  go_wp2_with fail
  refine (HP1.out _ (grows HB.out (grew W1 _)) _ (srow_six W1 _ _ _ _ _ _)).mono ?_
  rintro e w2 ⟨rfl, hb2⟩
  have hb2' := grows (grew W1 _) hb2
  unfold zero9 val9
  go_upto_region 3 with fail
  obtain ⟨W2, hW2⟩ : ∃ W, W = w2.alloc (.cells #[.string ⟨#[]⟩, .int .u64 0, .int .u64 0, .int .u64 0, .int .u64 0, .int .i64 0, .int .i64 0, .int .i64 0, .slice none 0 0] 27) := ⟨_, rfl⟩
  have hb2'' : Below W1.heap.size W1 W2 := by rw [hW2]; exact grows hb2' (grew w2 _)
  rw [← hW2]
  have HA2 := Lib.hid (HA.out.more hb2'')
  have HR2 := Lib.hid (HR.out.below hb2'')
  have HB2 := Lib.hid (grows HB.out hb2'')
  clear hW2 hb2 hb2' hb2'' HA HR HB HP1
  obtain ⟨⟨c0, c1, c2, c3, c4, c5, c6, c7, c8⟩, _⟩ := cells9 (HA2.out.get 0 rfl)
  unfold val9 at HTo HPu HTe HCh HC1 HCA HCN HSa HSb
  go_wp2_with fail
  refine (HTo.out _ _).mono ?_
  rintro e w3 ⟨rfl, hb3⟩
  have hvv : vecV ((some (3, 6, 0, 0) : Option V4).getD (0, 0, 0, 0)) = vec 3 6 0 0 := rfl
  have hvb : (some (3, 6, 0, 0) : Option V4).isSome = true := rfl
  rw [hvv, hvb]
  clear hvv hvb
  unfold vec
  go_upto_region 4 with fail
  have hA3 : AllB [(w3.heap.size, box 3 6 0 0), (B1, box9 P 1 2 0 0 3 5 9 (.slice sa 1 sc))] (w3.alloc (box 3 6 0 0)) := (HA2.out.more hb3).new _
  have hb3' := grows hb3 (grew w3 (box 3 6 0 0))
  obtain ⟨B5, hb5⟩ : ∃ B, B = w3.heap.size := ⟨_, rfl⟩
  rw [← hb5] at hA3 ⊢
  unfold box at hA3 hb3'
  obtain ⟨W3, hW3⟩ : ∃ W, W = w3.alloc (.cells #[.int .u64 3, .int .u64 6, .int .u64 0, .int .u64 0] 24) := ⟨_, rfl⟩
  rw [← hW3] at hA3 hb3' ⊢
  have HA3 := Lib.hid hA3
  have HR3 := Lib.hid (HR2.out.below hb3')
  have HB3 := Lib.hid (grows HB2.out hb3')
  clear hW3 hA3 hb3 hb3' hb5 HA2 HR2 HB2 HTo c0 c1 c2 c3 c4 c5 c6 c7 c8
  obtain ⟨⟨c0, c1, c2, c3, c4, c5, c6, c7, c8⟩, _⟩ := cells9 (HA3.out.get 1 rfl)
  have hadd : ∀ w, Sem.run Tryz.prog (Op.stringOp .add ⟨#[120]⟩ PX) w = .ok (.string (⟨#[120]⟩ ++ PX)) w := fun w => run_string_add_sum w _ _ (by have : (⟨#[120]⟩ : ByteArray).size = 1 := rfl; omega)
  obtain ⟨SX, hSX⟩ : ∃ SX, SX = (⟨#[120]⟩ : ByteArray) ++ PX := ⟨_, rfl⟩
  rw [← hSX] at hadd HG
  clear hSX
  go_wp2_with fail
  refine (HPu.out _ _ HR3.out).mono ?_
  rintro e w4 ⟨rfl, hb4⟩
  have HA4 := Lib.hid (HA3.out.more hb4)
  have HR4 := Lib.hid (HR3.out.below hb4)
  have HB4 := Lib.hid (grows HB3.out hb4)
  clear hb4 HA3 HR3 HB3 c0 c1 c2 c3 c4 c5 c6 c7 c8
  go_wp2_with fail
  refine (HG.out _ HB4.out).mono ?_
  rintro e w5 ⟨⟨v, he, hrow⟩, hb5⟩
  dsimp only at he
  rw [val_x0] at he
  subst he
  obtain ⟨sb, sd, rfl, _, _⟩ := hrow.slice
  have hl1 : (terms x0).length = 1 := rfl
  rw [hl1] at hrow ⊢
  rw [hP0]
  unfold val9
  go_upto_region 5 with fail
  have hA5 : AllB [(w5.heap.size, box9 P 1 2 0 0 3 5 9 (.slice sb 1 sd)), (B5, box 3 6 0 0), (B1, box9 P 1 2 0 0 3 5 9 (.slice sa 1 sc))] (w5.alloc (box9 P 1 2 0 0 3 5 9 (.slice sb 1 sd))) := (HA4.out.more hb5).new _
  have hb5' := grows hb5 (grew w5 (box9 P 1 2 0 0 3 5 9 (.slice sb 1 sd)))
  have hRy : TRow (w5.alloc (box9 P 1 2 0 0 3 5 9 (.slice sb 1 sd))) (.slice sb 1 sd) (terms x0) := hrow.below (grew w5 _)
  obtain ⟨B7, hb7⟩ : ∃ B, B = w5.heap.size := ⟨_, rfl⟩
  rw [← hb7] at hA5 ⊢
  unfold box9 at hA5 hb5' hRy
  obtain ⟨W5, hW5⟩ : ∃ W, W = w5.alloc (.cells #[.string P, .int .u64 1, .int .u64 2, .int .u64 0, .int .u64 0, .int .i64 3, .int .i64 5, .int .i64 9, .slice sb 1 sd] 27) := ⟨_, rfl⟩
  rw [← hW5] at hA5 hb5' hRy ⊢
  have HA5 := Lib.hid hA5
  have HR5 := Lib.hid (HR4.out.below hb5')
  have HY5 := Lib.hid hRy
  have HB5 := Lib.hid (grows HB4.out hb5')
  clear hW5 hA5 hb5 hb5' hRy hrow hl1 hb7 HA4 HR4 HB4 HG hadd
  obtain ⟨⟨c0, c1, c2, c3, c4, c5, c6, c7, c8⟩, _⟩ := cells9 (HA5.out.get 2 rfl)
  go_upto_region 6 with fail
  clear c0 c1 c2 c3 c4 c5 c6 c7 c8
  have hA6 : AllB [(W5.heap.size, box9 P 9223372036854775808 0 0 0 3 5 9 (.slice sa 1 sc)), (B7, box9 P 1 2 0 0 3 5 9 (.slice sb 1 sd)), (B5, box 3 6 0 0), (B1, box9 P 1 2 0 0 3 5 9 (.slice sa 1 sc))] (W5.alloc (box9 P 9223372036854775808 0 0 0 3 5 9 (.slice sa 1 sc))) := HA5.out.new _
  have hb6 := grew W5 (box9 P 9223372036854775808 0 0 0 3 5 9 (.slice sa 1 sc))
  obtain ⟨B10, hb10⟩ : ∃ B, B = W5.heap.size := ⟨_, rfl⟩
  have HA6 := Lib.hid hA6
  have HR6 := Lib.hid (HR5.out.below hb6)
  have HY6 := Lib.hid (HY5.out.below hb6)
  have HB6 := Lib.hid (grows HB5.out hb6)
  clear hA6 hb6 HA5 HR5 HY5 HB5
  unfold box9 box at HA6
  unfold box9 at HR6 HY6 HB6
  obtain ⟨⟨c0, c1, c2, c3, c4, c5, c6, c7, c8⟩, _⟩ := cells9 (HA6.out.get 3 rfl)
  obtain ⟨⟨y0, y1, y2, y3, y4, y5, y6, y7, y8⟩, _⟩ := cells9 (HA6.out.get 1 rfl)
  obtain ⟨v0, v1, v2, v3, _⟩ := cells4 (HA6.out.get 2 rfl)
  have hev := eql_vec 3 6 0 0 3 6 0 0
  have hsv : Vec.same 3 6 0 0 3 6 0 0 = true := rfl
  rw [hsv] at hev
  go_wp2_with fail
  refine (HSa.out _ _ _ HR6.out HY6.out).mono ?_
  rintro e w6 ⟨rfl, hb6⟩
  have hA7 := HA6.out.more hb6
  rw [← hb10] at hA7 ⊢
  have HA7 := Lib.hid hA7
  have HR7 := Lib.hid (HR6.out.below hb6)
  have HB7 := Lib.hid (grows HB6.out hb6)
  clear hA7 hb6 hb10 HA6 HR6 HY6 HB6 HSa hev hsv v0 v1 v2 v3 c0 c1 c2 c3 c4 c5 c6 c7 c8 y0 y1 y2 y3 y4 y5 y6 y7 y8
  obtain ⟨⟨c0, c1, c2, c3, c4, c5, c6, c7, c8⟩, _⟩ := cells9 (HA7.out.get 3 rfl)
  go_wp2_with fail
  refine (HPu.out _ _ HR7.out).mono ?_
  rintro e w8 ⟨rfl, hb8⟩
  have HA8 := Lib.hid (HA7.out.more hb8)
  have HR8 := Lib.hid (HR7.out.below hb8)
  have HB8 := Lib.hid (grows HB7.out hb8)
  clear hb8 HA7 HR7 HB7 HPu c0 c1 c2 c3 c4 c5 c6 c7 c8
  obtain ⟨⟨c0, c1, c2, c3, c4, c5, c6, c7, c8⟩, _⟩ := cells9 (HA8.out.get 3 rfl)
  go_wp2_with fail
  refine (HTe.out _ _ HB8.out HR8.out).mono ?_
  rintro e w9 ⟨rfl, hb9⟩
  have HA9 := Lib.hid (HA8.out.more hb9)
  have HR9 := Lib.hid (HR8.out.below hb9)
  have HB9 := Lib.hid (grows HB8.out hb9)
  clear hb9 HA8 HR8 HB8 HTe c0 c1 c2 c3 c4 c5 c6 c7 c8
  obtain ⟨⟨c0, c1, c2, c3, c4, c5, c6, c7, c8⟩, _⟩ := cells9 (HA9.out.get 3 rfl)
  go_wp2_with fail
  refine (HCh.out _ _ HR9.out).mono ?_
  rintro e w10 ⟨rfl, hb10⟩
  have HA10 := Lib.hid (HA9.out.more hb10)
  have HR10 := Lib.hid (HR9.out.below hb10)
  have HB10 := Lib.hid (grows HB9.out hb10)
  clear hb10 HA9 HR9 HB9 HCh c0 c1 c2 c3 c4 c5 c6 c7 c8
  obtain ⟨⟨c0, c1, c2, c3, c4, c5, c6, c7, c8⟩, _⟩ := cells9 (HA10.out.get 0 rfl)
  go_wp2_with fail
  refine (HC1.out _ _ HR10.out).mono ?_
  rintro e w11 ⟨rfl, hb11⟩
  have HA11 := Lib.hid (HA10.out.more hb11)
  have HR11 := Lib.hid (HR10.out.below hb11)
  have HB11 := Lib.hid (grows HB10.out hb11)
  clear hb11 HA10 HR10 HB10 HC1 c0 c1 c2 c3 c4 c5 c6 c7 c8
  go_wp2_with fail
  refine (HCN.out _).mono ?_
  rintro e w12 ⟨rfl, hb12⟩
  have HA12 := Lib.hid (HA11.out.more hb12)
  have HR12 := Lib.hid (HR11.out.below hb12)
  have HB12 := Lib.hid (grows HB11.out hb12)
  clear hb12 HA11 HR11 HB11 HCN
  go_wp2_with fail
  refine (HCA.out _).mono ?_
  rintro e w13 ⟨rfl, hb13⟩
  have HA13 := Lib.hid (HA12.out.more hb13)
  have HR13 := Lib.hid (HR12.out.below hb13)
  have HB13 := Lib.hid (grows HB12.out hb13)
  clear hb13 HA12 HR12 HB12 HCA
  obtain ⟨⟨c0, c1, c2, c3, c4, c5, c6, c7, c8⟩, _⟩ := cells9 (HA13.out.get 3 rfl)
  obtain ⟨⟨y0, y1, y2, y3, y4, y5, y6, y7, y8⟩, _⟩ := cells9 (HA13.out.get 0 rfl)
  go_wp2_with fail
  refine (HSb.out _ _ _ HR13.out HR13.out).mono ?_
  rintro e w14 ⟨rfl, hb14⟩
  have HB14 := Lib.hid (grows HB13.out hb14)
  clear hb14 HA13 HR13 HB13 HSb c0 c1 c2 c3 c4 c5 c6 c7 c8 y0 y1 y2 y3 y4 y5 y6 y7 y8
  go_wp2
  go_ret
  exact ⟨rfl, HB14.out⟩
end Go.Proofs.YtbilkeadhflibaaGreatDoor.Job

/- Arguments that are slices of bytes, and slices of such slices: what their cells hold. Of no program. -/
namespace Go.Proofs.YtbilkeadhflibaaGreatDoor.Args
open Go.ChangeShapes Go.WideShapes Go.ChangeAt Go.RowKit

/-- A slice of bytes: nothing, or a row whose cells hold them. -/
def Bytes (w : World) (v : Value) (bs : List UInt8) : Prop :=
  ∃ o cap, v = .slice o bs.length cap ∧ bs.length ≤ maxLen ∧ (bs ≠ [] → ∃ b off, o = some ⟨b, off, none⟩ ∧ b < w.heap.size ∧ ∀ i (h : i < bs.length), w.cell? ⟨b, off + i, none⟩ = some (.int .u8 (bs[i].toNat : Int)))
theorem Bytes.below {w w' : World} {v : Value} {bs : List UInt8} (h : Bytes w v bs) (hb : Below w.heap.size w w') : Bytes w' v bs := by
  obtain ⟨o, cap, h1, h2, h3⟩ := h
  refine ⟨o, cap, h1, h2, fun hne => ?_⟩
  obtain ⟨b, off, h4, h5, h6⟩ := h3 hne
  exact ⟨b, off, h4, by have := hb.size; omega, fun i hi => by rw [hb.cell h5]; exact h6 i hi⟩

/-- A slice of slices of bytes. -/
def ByteRows (w : World) (v : Value) (bss : List (List UInt8)) : Prop :=
  ∃ o cap, v = .slice o bss.length cap ∧ bss.length ≤ maxLen ∧ (bss ≠ [] → ∃ b off, o = some ⟨b, off, none⟩ ∧ b < w.heap.size ∧ ∀ i (h : i < bss.length), ∃ u, w.cell? ⟨b, off + i, none⟩ = some u ∧ Bytes w u bss[i])
theorem ByteRows.below {w w' : World} {v : Value} {bss : List (List UInt8)} (h : ByteRows w v bss) (hb : Below w.heap.size w w') : ByteRows w' v bss := by
  obtain ⟨o, cap, h1, h2, h3⟩ := h
  refine ⟨o, cap, h1, h2, fun hne => ?_⟩
  obtain ⟨b, off, h4, h5, h6⟩ := h3 hne
  refine ⟨b, off, h4, by have := hb.size; omega, fun i hi => ?_⟩
  obtain ⟨u, h7, h8⟩ := h6 i hi
  exact ⟨u, by rw [hb.cell h5]; exact h7, h8.below hb⟩

section
variable {H : Type} {enc : TypeId × Value → H} {P : Program}

theorem byte_of {n : Int} (h : (Lit.int .u8 n).wf = true) : ((UInt8.ofNat n.toNat).toNat : Int) = n := by
  have hb : 0 ≤ n ∧ n ≤ 255 := by simpa [Lit.wf, IntKind.min, IntKind.max, IntKind.signed, IntKind.bits] using h
  rw [UInt8.toNat_ofNat']
  omega

/-- Numbers in cells, as bytes. -/
theorem bytes_of {w : World} (o : Option Addr) (len cap : Nat) (zs : List Int) (hl : len ≤ zs.length) (hm : len ≤ maxLen) (hw : ∀ n ∈ zs, (Lit.int .u8 n).wf = true)
    (hc : ∀ a, o = some a → ∀ i, i < zs.length → w.cell? (a.add i) = some (.int .u8 (zs.getD i 0))) (hn : o = none → len = 0) :
    Bytes w (.slice o len cap) ((zs.take len).map fun n => UInt8.ofNat n.toNat) := by
  have hlen : ((zs.take len).map fun n => UInt8.ofNat n.toNat).length = len := by simp; omega
  refine ⟨o, cap, by rw [hlen], by rw [hlen]; exact hm, fun hne => ?_⟩
  have hpos := List.length_pos_iff.2 hne
  rw [hlen] at hpos
  cases o with
  | none => have := hn rfl; omega
  | some a =>
    obtain ⟨ab, ao, spot⟩ := a
    have h0 := hc _ rfl 0 (by omega)
    have hspot : spot = none := by simpa [Addr.add] using World.cell?_spot h0
    subst hspot
    refine ⟨ab, ao, rfl, ?_, fun i hi => ?_⟩
    · exact World.block_lt_of_cell? (a := ⟨ab, ao, none⟩) _ (by simpa [Addr.add] using h0)
    · rw [hlen] at hi
      have h1 := hc _ rfl i (by omega)
      rw [Addr.add_lit] at h1
      rw [h1]
      have e : zs.getD i 0 = zs[i]'(by omega) := by simp [List.getD, List.getElem?_eq_getElem (show i < zs.length by omega)]
      rw [e]
      simp only [List.getElem_map, List.getElem_take]
      rw [byte_of (hw _ (List.getElem_mem _))]

/-- An argument of bytes, opened. -/
theorem open_bytes {t e : TypeId} (ht : P.underlying t = some (.slice e)) (he : P.underlying e = some (.int .u8)) (hc : P.cellsOf e = 1) {W : World} {base : Nat} {v : Value} {d : DataW H} {p : List MemPlace}
    (hval : Value.okWide P W .any base t v) (h : DataW.Trod enc P W 0 (fun _ => true) true t v d p) : ∃ bs, Bytes W v bs := by
  obtain ⟨a1, len, cap, rfl⟩ := okWide_slice ht hval
  obtain ⟨fuel, hf⟩ := h
  rcases open_ints ht he hc hf with ⟨hcs, _⟩ | ⟨a, len', cap', zs, hcs, _, hl, hm, hz, _, hcell, hwz⟩
  · simp [Value.cells] at hcs
    obtain ⟨rfl, rfl, rfl⟩ := hcs
    exact ⟨[], none, 0, rfl, Nat.zero_le _, fun h => absurd rfl h⟩
  · simp [Value.cells] at hcs
    obtain ⟨rfl, rfl, rfl⟩ := hcs
    simp only [if_true] at hz
    exact ⟨_, bytes_of (some a) len cap zs (by omega) (by omega) hwz (fun a' ha' => by cases ha'; exact hcell) (fun h => by cases h)⟩

theorem open_rows {t e q : TypeId} (ht : P.underlying t = some (.slice e)) (he : P.underlying e = some (.slice q)) (hq : P.underlying q = some (.int .u8)) (ce : P.cellsOf e = 1) (cq : P.cellsOf q = 1) {W : World} {base : Nat} {v : Value} {d : DataW H} {p : List MemPlace}
    (hval : Value.okWide P W .any base t v) (h : DataW.Trod enc P W 0 (fun _ => true) true t v d p) : ∃ bss, ByteRows W v bss := by
  obtain ⟨a1, len, cap, rfl⟩ := okWide_slice ht hval
  obtain ⟨fuel, hf⟩ := h
  rcases Deep.open_int_rows ht he hq ce cq hf with ⟨hcs, _⟩ | ⟨a, len', cap', A, L, C, Z, hcs, _, hl, hm, _, hr⟩
  · simp [Value.cells] at hcs
    obtain ⟨rfl, rfl, rfl⟩ := hcs
    exact ⟨[], none, 0, rfl, Nat.zero_le _, fun h => absurd rfl h⟩
  · simp [Value.cells] at hcs
    obtain ⟨rfl, rfl, rfl⟩ := hcs
    have hlen : ((List.range len).map fun r => ((Z r).take (L r)).map fun n => UInt8.ofNat n.toNat).length = len := by simp
    refine ⟨(List.range len).map fun r => ((Z r).take (L r)).map fun n => UInt8.ofNat n.toNat, some a, cap, by rw [hlen], by rw [hlen]; omega, fun hne => ?_⟩
    have hpos := List.length_pos_iff.2 hne
    rw [hlen] at hpos
    obtain ⟨ab, ao, spot⟩ := a
    have h0 := (hr 0 (by omega)).1
    have hspot : spot = none := by simpa [Addr.add] using World.cell?_spot h0
    subst hspot
    refine ⟨ab, ao, rfl, World.block_lt_of_cell? (a := ⟨ab, ao, none⟩) _ (by simpa [Addr.add] using h0), fun i hi => ?_⟩
    rw [hlen] at hi
    obtain ⟨h1, h2, h3, h4, h5, h6, h7⟩ := hr i (by omega)
    rw [Addr.add_lit] at h1
    refine ⟨_, h1, ?_⟩
    simp only [List.getElem_map, List.getElem_range]
    exact bytes_of (A i) (L i) (C i) (Z i) (by omega) (by omega) h5 (fun a' ha' j hj => (h7 a' ha').2 j (by omega)) (fun hn => by have := h6 hn; omega)
end
end Go.Proofs.YtbilkeadhflibaaGreatDoor.Args

/- The job that the law makes of bytes: plain, and that it may be; what is read of a byte. -/
namespace Go.Proofs.YtbilkeadhflibaaGreatDoor.Job
open Go.RowKit Go.Proofs.YtbilkeadhflibaaGreatDoor.Wire Go.Proofs.YtbilkeadhflibaaGreatDoor.Vec Go.Proofs.YtbilkeadhflibaaGreatDoor.Sel Go.Proofs.YtbilkeadhflibaaGreatDoor.Texts Go.Proofs.YtbilkeadhflibaaGreatDoor.Args

def bAt (bs : List UInt8) (i : Nat) : Nat := if h : i < bs.length then (bs[i]).toNat else 0
theorem bAt_lt (bs : List UInt8) (i : Nat) : bAt bs i ≤ 255 := by
  unfold bAt
  split
  · have := (bs[i]).toNat_lt
    omega
  · omega
def pathAt : Nat → ByteArray
  | 0 => ⟨#[97]⟩
  | 1 => ⟨#[97, 47, 98]⟩
  | 2 => ⟨#[98]⟩
  | _ => ⟨#[206, 177, 206, 178, 47, 208, 180, 208, 190, 208, 188, 47, 99]⟩
def valsAt : Nat → List ByteArray
  | 0 => []
  | 1 => [⟨#[97]⟩]
  | _ => [⟨#[97]⟩, ⟨#[98]⟩]
def demAt (bs : List UInt8) (k : Nat) : Nat := bAt bs (4 + k) * 2 ^ (bAt bs (8 + k) % 50)
def termsOf (bs : List UInt8) : List Tm := if 0 < bAt bs 12 % 3 then [(⟨#[122, 111, 110, 101]⟩, decide (bAt bs 12 % 2 = 1), valsAt (bAt bs 13 % 3))] else []
def madeJ (bs : List UInt8) : Jb := (pathAt (bAt bs 0 % 4), (demAt bs 0, demAt bs 1, demAt bs 2, demAt bs 3), ((1 + bAt bs 1 % 8 : Nat), (bAt bs 2 % 10 : Nat), (1 + bAt bs 3 % 100 : Nat)), termsOf bs)
theorem demAt_lt (bs : List UInt8) (k : Nat) : demAt bs k ≤ 255 * 562949953421312 := by
  unfold demAt
  have h1 := bAt_lt bs (4 + k)
  have h2 : 2 ^ (bAt bs (8 + k) % 50) ≤ 2 ^ 49 := Nat.pow_le_pow_right (by omega) (by omega)
  have h3 : (2 : Nat) ^ 49 = 562949953421312 := by decide
  rw [h3] at h2
  exact Nat.mul_le_mul h1 h2
theorem am_made (bs : List UInt8) : ∀ k, k < 4 → am (dem (madeJ bs)) k = demAt bs k := fun k hk => by
  rcases lt4 hk with rfl | rfl | rfl | rfl <;> rfl
theorem termsOf_right (bs : List UInt8) : rightS (termsOf bs) = true := by
  unfold termsOf
  split
  · have h : bAt bs 13 % 3 < 3 := Nat.mod_lt _ (by omega)
    generalize bAt bs 13 % 3 = m at h
    generalize decide (bAt bs 12 % 2 = 1) = n
    have : m = 0 ∨ m = 1 ∨ m = 2 := by omega
    rcases this with rfl | rfl | rfl <;> cases n <;> decide +kernel
  · rfl
theorem parts_path (m : Nat) : Word.parts (pathAt m).data.toList ≠ [] := by
  match m with
  | 0 => decide +kernel
  | 1 => decide +kernel
  | 2 => decide +kernel
  | n + 3 =>
    have h : pathAt (n + 3) = pathAt 3 := rfl
    rw [h]
    decide +kernel
theorem made_check (bs : List UInt8) : checkJ (madeJ bs) = 0 := by
  refine checkJ_ok.2 ⟨parts_path _, ?_, termsOf_right bs, ?_⟩
  · unfold inB
    rw [decide_eq_true_iff]
    show 1 ≤ ((1 + bAt bs 1 % 8 : Nat) : Int) ∧ ((1 + bAt bs 1 % 8 : Nat) : Int) ≤ 8 ∧ 0 ≤ ((bAt bs 2 % 10 : Nat) : Int) ∧ ((bAt bs 2 % 10 : Nat) : Int) ≤ 9 ∧ 1 ≤ ((1 + bAt bs 3 % 100 : Nat) : Int) ∧ ((1 + bAt bs 3 % 100 : Nat) : Int) ≤ 100
    omega
  · have hm : manyJ (madeJ bs) ≤ 8 := by
      rw [manyJ_small (by show 0 ≤ ((1 + bAt bs 1 % 8 : Nat) : Int) ∧ ((1 + bAt bs 1 % 8 : Nat) : Int) ≤ 100; omega)]
      show (((1 + bAt bs 1 % 8 : Nat) : Int)).toNat ≤ 8
      omega
    unfold totalJ
    rw [timesV_some (fun k hk => by
      rw [am_made bs k hk]
      have h1 := demAt_lt bs k
      have h2 := Nat.mul_le_mul h1 hm
      omega)]
    rfl
theorem path_small (m : Nat) : (pathAt m).size ≤ 13 := by
  match m with
  | 0 => decide
  | 1 => decide
  | 2 => decide
  | n + 3 =>
    have h : pathAt (n + 3) = pathAt 3 := rfl
    rw [h]
    decide
theorem made_fair (bs : List UInt8) : FairJ (madeJ bs) := by
  refine ⟨by have := path_small (bAt bs 0 % 4); show (pathAt (bAt bs 0 % 4)).size ≤ _; omega, fun k hk => ?_, fair_right (termsOf_right bs)⟩
  rw [am_made bs k hk]
  have := demAt_lt bs k
  omega

set_option maxRecDepth 100000 in
set_option maxHeartbeats 2000000 in
/-- What the law's own reader tells: the byte at a place, or nought. -/
theorem at_any (A : Nat) (v : Value) (bs : List UInt8) (i : Nat) (hi : i ≤ 100) (w : World) (hv : Bytes w v bs) (hA : w.heap[A]? = some (.cells #[v] 56)) :
    Calls Tryz.prog 62 #[.int .i64 i, .pointer (some ⟨A, 0, none⟩)] w fun e w' => e = .returned (.int .i64 (bAt bs i)) ∧ w' = w := by
  obtain ⟨o, cap, rfl, hm, hcell⟩ := hv
  have cA := cell_at (i := 0) (v := .slice o bs.length cap) hA rfl
  by_cases hlt : i < bs.length
  · obtain ⟨b, off, rfl, hbl, hc⟩ := hcell (by intro h; rw [h] at hlt; simp at hlt)
    have hcl := hc i hlt
    have hb : bAt bs i = (bs[i]).toNat := dif_pos hlt
    rw [hb]
    obtain ⟨c, hcc⟩ : ∃ c : Nat, c = (bs[i]).toNat := ⟨_, rfl⟩
    rw [← hcc] at hcl ⊢
    have hc255 : c ≤ 255 := by have := (bs[i]).toNat_lt; omega
    have hltz : (i : Int) < (bs.length : Int) := by omega
    have hi0 : (0 : Int) ≤ (i : Int) := by omega
    have hw : IntKind.i64.wrap (c : Int) = (c : Int) := by rw [IntKind.wrap_i64]; omega
    clear hcc hb hc hcell hA
    go_enter Tryz.func62, Tryz.ntmps62
    go_wp2
    go_ret
    exact ⟨rfl, rfl⟩
  · have hb : bAt bs i = 0 := dif_neg hlt
    rw [hb]
    have hltz : ¬ (i : Int) < (bs.length : Int) := by omega
    clear hb hcell hA
    go_enter Tryz.func62, Tryz.ntmps62
    go_wp2
    go_ret
    exact ⟨rfl, rfl⟩
end Go.Proofs.YtbilkeadhflibaaGreatDoor.Job

/- A region that draws its order and ends in a store that waits for all the rest: what it loads may be taken first where a condition holds ahead of that store. Of no program. -/
namespace Go.Proofs.YtbilkeadhflibaaGreatDoor.Held
open Go Go.RowKit

/-- Does operation k wait for i, by way of others? -/
def waits (md : Region.Mode) (ops : Array Oper) : Nat → Nat → Nat → Bool
  | 0, _, _ => false
  | f + 1, k, i => match ops[k]? with
    | none => false
    | some o => o.after.toList.any fun e => Region.binds md e && (e.on == i || waits md ops f e.on i)
/-- Of each operation that has come up, all that it waits for has come up. -/
def Closed (md : Region.Mode) (ops : Array Oper) (listed : Array Bool) : Prop :=
  ∀ k o, ops[k]? = some o → listed.getD k true = true → ∀ e ∈ o.after, Region.binds md e = true → listed.getD e.on false = true
theorem closed_none (md : Region.Mode) (ops : Array Oper) : Closed md ops (Array.replicate ops.size false) := fun k o ho hl => by
  have hk := (Array.getElem?_eq_some_iff.1 ho).1
  simp [hk] at hl

section
variable {P : Program} {ops : Array Oper} {Q : Exit → Act → World → Prop} {md : Region.Mode} {S : World → Prop} {m : Nat}

theorem getD_true {l : Array Bool} {k : Nat} (h : l.getD k false = true) : l.getD k true = true := by
  rcases Nat.lt_or_ge k l.size with h' | h'
  · simp [h'] at h ⊢; exact h
  · simp [h']
theorem Closed.set {listed : Array Bool} {j : Nat} (h : Closed md ops listed) (hj : j ∈ Region.ready md ops listed) : Closed md ops (listed.setIfInBounds j true) := fun k o ho hl e he hb => by
  by_cases hkj : j = k
  · subst hkj
    obtain ⟨_, o', ho', hall⟩ := mem_ready.1 hj
    rw [ho] at ho'
    injection ho' with ho'
    subst ho'
    exact getD_set_true (hall e he hb)
  · rw [getD_set_ne true hkj] at hl
    exact getD_set_true (h k o ho hl e he hb)
theorem waits_listed {listed : Array Bool} (h : Closed md ops listed) : ∀ (f k i : Nat), (∀ o, ops[k]? = some o → ∀ e ∈ o.after, Region.binds md e = true → listed.getD e.on false = true) → waits md ops f k i = true → listed.getD i false = true
  | 0, _, _, _, hw => by simp [waits] at hw
  | f + 1, k, i, ha, hw => by
    unfold waits at hw
    split at hw
    · cases hw
    rename_i o ho
    obtain ⟨e, he, hb⟩ := List.any_eq_true.1 hw
    rw [Bool.and_eq_true, Bool.or_eq_true, beq_iff_eq] at hb
    have hl := ha o ho e (Array.mem_toList_iff.1 he) hb.1
    rcases hb.2 with h1 | h1
    · rw [← h1]; exact hl
    · exact waits_listed h f e.on i (fun o' ho' => h e.on o' ho' (getD_true hl)) h1

/-- Whatever order is picked from here on; behind each operation but the last one, S. -/
def wpAnyX (P : Program) (md : Region.Mode) (ops : Array Oper) (Q : Exit → Act → World → Prop) (S : World → Prop) (m : Nat) : Nat → Array Bool → Act → World → Prop
  | 0, listed, a, w => Region.ready md ops listed = [] ∧ Q .normal a w
  | fuel + 1, listed, a, w =>
    (Region.ready md ops listed = [] → Q .normal a w) ∧
    ∀ i ∈ Region.ready md ops listed, wpOp P ops Q i (fun a' w' => (i ≠ m → S w') ∧ wpAnyX P md ops Q S m fuel (listed.setIfInBounds i true) a' w') a w
theorem any_of : ∀ (fuel : Nat) (listed : Array Bool) (a : Act) (w : World), wpAnyX P md ops Q S m fuel listed a w → wpAny P md ops Q fuel listed a w
  | 0, _, _, _, h => h
  | fuel + 1, _, _, _, h => ⟨h.1, fun i hi => wpOp_mono (fun a' w' h' => any_of fuel _ a' w' h'.2) (h.2 i hi)⟩
theorem first {i : Nat} {oi : Oper} {v : Value} (hi : ops[i]? = some oi) (hsel : ∀ (j : Nat) (o : Oper) cs b, ops[j]? = some o → o.op ≠ .select cs b)
    (hQ : ∀ c a w, Q (.panic c) (a.put oi.dst v) w → Q (.panic c) a w) (f : Nat) (hw : waits md ops f m i = true) :
    ∀ (fuel : Nat) (listed : Array Bool) (a : Act) (w : World),
      (∀ j oj, ops[j]? = some oj → j ≠ i → listed.getD j true = false → (∀ e ∈ oj.after, Region.binds md e = true → e.on ≠ i) → oi.apart ops oj = true) →
      Closed md ops listed → i ∈ Region.ready md ops listed → YieldsIf P ops S oi v a → S w →
      wpAnyX P md ops Q S m fuel (listed.setIfInBounds i true) (a.put oi.dst v) w → wpAnyX P md ops Q S m (fuel + 1) listed a w := by
  intro fuel
  induction fuel with
  | zero =>
    intro listed a w _ _ hr hy hS H
    refine ⟨fun h => (by rw [h] at hr; cases hr), fun j hj => ?_⟩
    by_cases hji : j = i
    · subst hji; exact hy.wpOp hi hS ⟨fun _ => hS, H⟩
    · have := ready_mono hj hji
      rw [H.1] at this
      cases this
  | succ fuel ih =>
    intro listed a w hfree hc hr hy hS H
    refine ⟨fun h => (by rw [h] at hr; cases hr), fun j hj => ?_⟩
    by_cases hji : j = i
    · subst hji; exact hy.wpOp hi hS ⟨fun _ => hS, H⟩
    · have h1 := H.2 j (ready_mono hj hji)
      obtain ⟨hjun, oj, hoj, hall⟩ := mem_ready.1 hj
      have hjm : j ≠ m := fun hjm => by
        subst hjm
        have h2 := waits_listed hc f j i (fun o ho e he hb => by rw [hoj] at ho; injection ho with ho; subst ho; exact hall e he hb) hw
        have h0 := (mem_ready.1 hr).1
        rw [getD_true h2] at h0
        cases h0
      have hnot : ∀ e ∈ oj.after, Region.binds md e = true → e.on ≠ i := fun e he hb heq => by
        have h1 := hall e he hb
        have h0 := (mem_ready.1 hr).1
        rw [heq] at h1
        rw [getD_true h1] at h0
        cases h0
      have h2 := wpOp_putIf hoj (hfree j oj hoj hji hjun hnot) (fun cs b => hsel i oi cs b hi) (fun cs b => hsel j oj cs b hoj) hQ hy h1
      have hfree' : ∀ k ok, ops[k]? = some ok → k ≠ i → (listed.setIfInBounds j true).getD k true = false →
          (∀ e ∈ ok.after, Region.binds md e = true → e.on ≠ i) → oi.apart ops ok = true := fun k ok hk hki hun hno => by
        refine hfree k ok hk hki ?_ hno
        by_cases hjk : j = k
        · subst hjk; exact hjun
        · rw [getD_set_ne true hjk] at hun; exact hun
      refine wpOp_mono (fun a' w' h3 => ⟨h3.2.1, ih (listed.setIfInBounds j true) a' w' hfree' (hc.set hj) (ready_mono hr (Ne.symm hji)) h3.1 (h3.2.1 hjm) ?_⟩) h2
      rw [Array.setIfInBounds_comm _ _ hji]
      exact h3.2.2

/-- So many operations have come up, in this order, each when it might. -/
def reach (md : Region.Mode) (ops : Array Oper) : List Nat → Array Bool → Option (Array Bool)
  | [], l => some l
  | i :: is, l => if (Region.ready md ops l).contains i then reach md ops is (l.setIfInBounds i true) else none
theorem reach_closed : ∀ (is : List Nat) (l l' : Array Bool), Closed md ops l → reach md ops is l = some l' → Closed md ops l'
  | [], l, l', h, hr => by simp [reach] at hr; subst hr; exact h
  | i :: is, l, l', h, hr => by
    unfold reach at hr
    split at hr
    · rename_i hc
      exact reach_closed is _ l' (h.set (by simpa using hc)) hr
    · cases hr
/-- The same as a Bool, for the kernel. -/
def closedB (md : Region.Mode) (ops : Array Oper) (listed : Array Bool) : Bool :=
  (List.range ops.size).all fun k => !(listed.getD k true) || (match ops[k]? with | none => true | some o => o.after.toList.all fun e => !(Region.binds md e) || listed.getD e.on false)
theorem closed_of {listed : Array Bool} (h : closedB md ops listed = true) : Closed md ops listed := fun k o ho hl e he hb => by
  have hk := (Array.getElem?_eq_some_iff.1 ho).1
  have h1 := List.all_eq_true.1 h k (List.mem_range.2 hk)
  rw [hl, ho] at h1
  simp only [Bool.not_true, Bool.false_or] at h1
  have h2 := List.all_eq_true.1 h1 e (Array.mem_toList_iff.2 he)
  rw [hb] at h2
  simpa using h2

/-- Take number i first. -/
theorem take {i : Nat} {oi : Oper} {v : Value} {fuel : Nat} {listed : Array Bool} {a : Act} {w : World} (hi : ops[i]? = some oi)
    (hs : Region.noSelect ops = true) (hf : Region.free md ops listed i = true) (hr : (Region.ready md ops listed).contains i = true) (hw : waits md ops ops.size m i = true) (hc : closedB md ops listed = true)
    (hQ : ∀ c a w, Q (.panic c) (a.put oi.dst v) w → Q (.panic c) a w) (hy : YieldsIf P ops S oi v a) (hS : S w)
    (h : wpAnyX P md ops Q S m fuel (listed.setIfInBounds i true) (a.put oi.dst v) w) : wpAnyX P md ops Q S m (fuel + 1) listed a w :=
  first hi (Region.noSelect_spec hs) hQ _ hw fuel listed a w (Region.free_spec hi hf) (closed_of hc) (by simpa using hr) hy hS h

def Ready (P : Program) (md : Region.Mode) (ops : Array Oper) (Q : Exit → Act → World → Prop) (S : World → Prop) (m fuel : Nat) (listed : Array Bool) (a : Act) (w : World) (rs : List Nat) : Prop :=
  ∀ i ∈ rs, wpOp P ops Q i (fun a' w' => (i ≠ m → S w') ∧ wpAnyX P md ops Q S m fuel (listed.setIfInBounds i true) a' w') a w
theorem Ready.nil {fuel : Nat} {listed : Array Bool} {a : Act} {w : World} : Ready P md ops Q S m fuel listed a w [] := fun _ h => by cases h
/-- One that is not the last: S is to be shown anew. -/
theorem Ready.cons {fuel : Nat} {listed : Array Bool} {a : Act} {w : World} {i : Nat} {o : Oper} {rs : List Nat} (ho : ops[i]? = some o)
    (h : ∀ K' : Act → World → Prop, Shut (∀ a w, S w → (S w → wpAnyX P md ops Q S m fuel (listed.setIfInBounds i true) a w) → K' a w) → if Region.wanted o (yielded ops a.tmps) = true then Oper.wp P o a w K' Q else K' (a.put o.dst undef) w)
    (hs : Ready P md ops Q S m fuel listed a w rs) : Ready P md ops Q S m fuel listed a w (i :: rs) := fun j hj => by
  rcases List.mem_cons.1 hj with rfl | hj
  · exact wpOp_step ho (fun K' hK => h K' (fun a w hS hW => hK a w ⟨fun _ => hS, hW hS⟩))
  · exact hs j hj
/-- The last one. -/
theorem Ready.last {fuel : Nat} {listed : Array Bool} {a : Act} {w : World} {o : Oper} (ho : ops[m]? = some o)
    (h : ∀ K' : Act → World → Prop, Shut (∀ a w, wpAnyX P md ops Q S m fuel (listed.setIfInBounds m true) a w → K' a w) → if Region.wanted o (yielded ops a.tmps) = true then Oper.wp P o a w K' Q else K' (a.put o.dst undef) w) :
    Ready P md ops Q S m fuel listed a w [m] := fun j hj => by
  rcases List.mem_cons.1 hj with rfl | hj
  · exact wpOp_step ho (fun K' hK => h K' (fun a w hW => hK a w ⟨fun hn => absurd rfl hn, hW⟩))
  · cases hj
theorem ready {rs : List Nat} {fuel : Nat} {listed : Array Bool} {a : Act} {w : World} (hr : Region.ready md ops listed = rs) (hne : rs ≠ [])
    (h : Ready P md ops Q S m fuel listed a w rs) : wpAnyX P md ops Q S m (fuel + 1) listed a w :=
  ⟨fun h0 => absurd (hr ▸ h0) hne, hr ▸ h⟩
theorem done {listed : Array Bool} {a : Act} {w : World} (hr : Region.ready md ops listed = []) (h : Q .normal a w) : ∀ fuel, wpAnyX P md ops Q S m fuel listed a w
  | 0 => ⟨hr, h⟩
  | _ + 1 => ⟨fun _ => h, by rw [hr]; simp⟩
/-- The beginning. -/
theorem start {id : Nat} {a : Act} {w : World} (hm : P.follows .mixedOrders = true) (hS : S w.drew)
    (h : S w.drew → wpAnyX P .any ops Q S m ops.size (Array.replicate ops.size false) a w.drew) : (Code.region id ops true).wp P Q a w :=
  wp_region_any hm (any_of _ _ _ _ (h hS))
end
end Go.Proofs.YtbilkeadhflibaaGreatDoor.Held

/- A region that draws, operation by operation, in a great frame: what an operation yields is given outright, and the kernel reckons it; no operation is ever written out. Of no program. -/
namespace Go.Proofs.YtbilkeadhflibaaGreatDoor.Step
open Go Go.RowKit

/-- What operation number i does. -/
def runAt (P : Program) (ops : Array Oper) (i : Nat) (ρ : Operand → Value) (w : World) : Result Next := match ops[i]? with
  | some o => (execOp ρ o).run P w
  | none => .ok .skip w
def opAt (ops : Array Oper) (i : Nat) : Option Op := ops[i]?.map (·.op)
def dstAt (ops : Array Oper) (i : Nat) : Option (Option Tmp) := ops[i]?.map (·.dst)
def wantedAt (ops : Array Oper) (i : Nat) (t : Array Value) : Bool := match ops[i]? with
  | some o => Region.wanted o (yielded ops t)
  | none => false

section
variable {P : Program} {ops : Array Oper} {Q : Exit → Act → World → Prop} {md : Region.Mode} {S : World → Prop} {m : Nat}
theorem of_dst {i : Nat} {d : Option Tmp} (h : dstAt ops i = some d) : ∃ o, ops[i]? = some o ∧ o.dst = d := by
  unfold dstAt at h
  cases ho : ops[i]? with
  | none => rw [ho] at h; cases h
  | some o => rw [ho] at h; exact ⟨o, rfl, by simpa using h⟩
/-- Number i is taken first: it yields v wherever S holds. -/
theorem take {i : Nat} {d : Option Tmp} {v : Value} {fuel : Nat} {listed : Array Bool} {a : Act} {w : World}
    (hs : Region.noSelect ops = true) (hf : Region.free md ops listed i = true) (hr : (Region.ready md ops listed).contains i = true) (hd : dstAt ops i = some d) (hw : wantedAt ops i a.tmps = true)
    (hQ : ∀ c a w, Q (.panic c) (a.put d v) w → Q (.panic c) a w) (hS : S w) (hy : ∀ w, S w → runAt P ops i a.eval w = .ok (.value v) w)
    (h : wpAnyH P md ops Q S fuel (listed.setIfInBounds i true) (a.put d v) w) : wpAnyH P md ops Q S (fuel + 1) listed a w := by
  obtain ⟨o, ho, rfl⟩ := of_dst hd
  unfold wantedAt at hw
  unfold runAt at hy
  rw [ho] at hw
  simp only [ho] at hy
  exact wpAnyH_take ho hs hf hr hQ (Or.inl ⟨hw, hy⟩) hS h
/-- The one that may come up is a call of a function of the program. -/
theorem call {i : Nat} {d : Option Tmp} (f : FuncId) (args : Array Value) {fuel : Nat} {listed : Array Bool} {a : Act} {w : World}
    (hr : Region.ready md ops listed = [i]) (hd : dstAt ops i = some d) (hw : wantedAt ops i a.tmps = true) (hx : runAt P ops i a.eval w = .ok (.enter f args) w)
    (h : Calls P f args w fun e w' => ∃ v, e = .returned v ∧ S w' ∧ (S w' → wpAnyH P md ops Q S fuel (listed.setIfInBounds i true) (a.put d v) w')) : wpAnyH P md ops Q S (fuel + 1) listed a w := by
  obtain ⟨o, ho, rfl⟩ := of_dst hd
  unfold wantedAt at hw
  unfold runAt at hx
  rw [ho] at hw
  simp only [ho] at hx
  refine wpAnyH_ready hr (by simp) (AllReadyH.cons ho (fun K hK => ?_) AllReadyH.nil)
  rw [if_pos hw]
  unfold Oper.wp
  rw [hx]
  refine h.mono ?_
  rintro e w' ⟨v, rfl, h1, h2⟩
  exact hK.out _ _ h1 h2
/-- The same where the region ends in a store. -/
theorem takeX {i : Nat} {d : Option Tmp} {v : Value} {fuel : Nat} {listed : Array Bool} {a : Act} {w : World}
    (hs : Region.noSelect ops = true) (hf : Region.free md ops listed i = true) (hr : (Region.ready md ops listed).contains i = true) (hl : Held.waits md ops ops.size m i = true) (hc : Held.closedB md ops listed = true) (hd : dstAt ops i = some d) (hw : wantedAt ops i a.tmps = true)
    (hQ : ∀ c a w, Q (.panic c) (a.put d v) w → Q (.panic c) a w) (hS : S w) (hy : ∀ w, S w → runAt P ops i a.eval w = .ok (.value v) w)
    (h : Held.wpAnyX P md ops Q S m fuel (listed.setIfInBounds i true) (a.put d v) w) : Held.wpAnyX P md ops Q S m (fuel + 1) listed a w := by
  obtain ⟨o, ho, rfl⟩ := of_dst hd
  unfold wantedAt at hw
  unfold runAt at hy
  rw [ho] at hw
  simp only [ho] at hy
  exact Held.take ho hs hf hr hl hc hQ (Or.inl ⟨hw, hy⟩) hS h
theorem callX {i : Nat} {d : Option Tmp} (f : FuncId) (args : Array Value) {fuel : Nat} {listed : Array Bool} {a : Act} {w : World}
    (hr : Region.ready md ops listed = [i]) (hd : dstAt ops i = some d) (hw : wantedAt ops i a.tmps = true) (hx : runAt P ops i a.eval w = .ok (.enter f args) w)
    (h : Calls P f args w fun e w' => ∃ v, e = .returned v ∧ S w' ∧ (S w' → Held.wpAnyX P md ops Q S m fuel (listed.setIfInBounds i true) (a.put d v) w')) : Held.wpAnyX P md ops Q S m (fuel + 1) listed a w := by
  obtain ⟨o, ho, rfl⟩ := of_dst hd
  unfold wantedAt at hw
  unfold runAt at hx
  rw [ho] at hw
  simp only [ho] at hx
  refine Held.ready hr (by simp) (Held.Ready.cons ho (fun K hK => ?_) Held.Ready.nil)
  rw [if_pos hw]
  unfold Oper.wp
  rw [hx]
  refine h.mono ?_
  rintro e w' ⟨v, rfl, h1, h2⟩
  exact hK.out _ _ h1 h2
end
theorem run_of {P : Program} {ops : Array Oper} {i : Nat} {ρ : Operand → Value} {w : World} {op : Op} {r : Result Next} (ho : opAt ops i = some op) (h : ∀ o : Oper, o.op = op → (execOp ρ o).run P w = r) : runAt P ops i ρ w = r := by
  unfold opAt at ho
  unfold runAt
  cases h' : ops[i]? with
  | none => rw [h'] at ho; cases ho
  | some o =>
    rw [h'] at ho
    exact h o (by simpa using ho)
end Go.Proofs.YtbilkeadhflibaaGreatDoor.Step

/- A region that draws its order: a call whose callee leaves the world as it was may be taken first, as any operation that only looks. Of no program. -/
namespace Go.Proofs.YtbilkeadhflibaaGreatDoor.HeldC
open Go Go.RowKit

section
variable {P : Program} {ops : Array Oper} {Q : Exit → Act → World → Prop} {md : Region.Mode} {S : World → Prop}

/-- In every world that meets S the operation is a call that answers v and leaves the world as it was. -/
def Answers (P : Program) (ops : Array Oper) (S : World → Prop) (o : Oper) (v : Value) (a : Act) : Prop :=
  Region.wanted o (yielded ops a.tmps) = true ∧ ∃ f args, ∀ w, S w → (execOp a.eval o).run P w = .ok (.enter f args) w ∧ Calls P f args w fun e w' => e = .returned v ∧ w' = w
theorem Answers.same {o : Oper} {v : Value} {a a' : Act} (h : Answers P ops S o v a) (he : execOp a'.eval o = execOp a.eval o)
    (hw : Region.wanted o (yielded ops a'.tmps) = Region.wanted o (yielded ops a.tmps)) : Answers P ops S o v a' := by
  unfold Answers at *
  rw [he, hw]
  exact h
theorem Answers.goes {i : Nat} {o : Oper} {v : Value} {a : Act} (hi : ops[i]? = some o) (h : Answers P ops S o v a) {K : Act → World → Prop} {w : World} (hS : S w) (hk : K (a.put o.dst v) w) : wpOp P ops Q i K a w := by
  obtain ⟨hw, f, args, hc⟩ := h
  obtain ⟨h1, h2⟩ := hc w hS
  unfold Go.wpOp
  simp only [hi, hw, if_true, Oper.wp, h1, Oper.upon]
  refine .inl (h2.mono ?_)
  rintro e w' ⟨rfl, rfl⟩
  exact hk
theorem beside {j : Nat} {oi oj : Oper} {v : Value} (hj : ops[j]? = some oj) (hap : oi.apart ops oj = true) (hsi : ∀ cs b, oi.op ≠ .select cs b) (hsj : ∀ cs b, oj.op ≠ .select cs b)
    (hQ : ∀ c a w, Q (.panic c) (a.put oi.dst v) w → Q (.panic c) a w) {K : Act → World → Prop} {a : Act} {w : World} (hy : Answers P ops S oi v a) (h : wpOp P ops Q j K (a.put oi.dst v) w) :
    wpOp P ops Q j (fun a' w' => Answers P ops S oi v a' ∧ K (a'.put oi.dst v) w') a w := by
  obtain ⟨h1, h2, h3⟩ := Oper.apart_spec hap
  have keep : ∀ (a : Act), Answers P ops S oi v a → ∀ u, Answers P ops S oi v (a.put oj.dst u) := fun a hy u => hy.same (execOp_put oi hsi a oj.dst u h3) (wanted_put oi a oj.dst u h3)
  have keepD : ∀ d, Answers P ops S oi v { a with defers := d :: a.defers } := fun d => hy.same rfl rfl
  unfold wpOp at *
  simp only [hj] at *
  rw [wanted_put oj a oi.dst v h1] at h
  split
  · rename_i hw
    simp only [hw, if_true] at h
    rcases h with h | ⟨hasks, hlets⟩
    · refine .inl ?_
      unfold Oper.wp at *
      rw [execOp_put oj hsj a oi.dst v h1] at h
      generalize (execOp a.eval oj).run P w = r at *
      cases r with
      | ok n w' =>
        cases n with
        | value u =>
          simp only [Oper.upon] at h ⊢
          exact ⟨keep a hy u, by rw [← Act.put_comm a v u h2]; exact h⟩
        | skip =>
          simp only [Oper.upon] at h ⊢
          exact ⟨keep a hy _, by rw [← Act.put_comm a v undef h2]; exact h⟩
        | defer d =>
          simp only [Oper.upon] at h ⊢
          refine ⟨keep _ (keepD d) _, ?_⟩
          rw [← Act.put_comm _ v undef h2, ← Act.put_defers]
          exact h
        | enter f args =>
          simp only [Oper.upon] at h ⊢
          refine Calls.mono h fun e w'' he => ?_
          cases e with
          | returned u => exact ⟨keep a hy u, by rw [← Act.put_comm a v u h2]; exact he⟩
          | panicked c => exact hQ _ _ _ he
          | outgrown => exact he
        | row row args =>
          simp only [Oper.upon] at h ⊢
          exact Rows.mono h fun u w'' he => ⟨keep a hy u, by rw [← Act.put_comm a v u h2]; exact he⟩
        | _ =>
          simp only [Oper.upon] at h ⊢
      | halt x w' =>
        cases x with
        | panic u =>
          simp only [Oper.upon] at h ⊢
          exact hQ _ _ _ h
        | _ =>
          simp only [Oper.upon] at h ⊢
    · exact .inr ⟨by unfold Oper.asks at *; rw [execOp_put oj hsj a oi.dst v h1] at hasks; exact hasks, hlets⟩
  · rename_i hw
    simp only [hw] at h
    exact ⟨keep a hy _, by rw [← Act.put_comm a v undef h2]; exact h⟩

theorem first {i : Nat} {oi : Oper} {v : Value} (hi : ops[i]? = some oi) (hsel : ∀ (j : Nat) (o : Oper) cs b, ops[j]? = some o → o.op ≠ .select cs b)
    (hQ : ∀ c a w, Q (.panic c) (a.put oi.dst v) w → Q (.panic c) a w) :
    ∀ (fuel : Nat) (listed : Array Bool) (a : Act) (w : World),
      (∀ j oj, ops[j]? = some oj → j ≠ i → listed.getD j true = false → (∀ e ∈ oj.after, Region.binds md e = true → e.on ≠ i) → oi.apart ops oj = true) →
      i ∈ Region.ready md ops listed → Answers P ops S oi v a → S w →
      wpAnyH P md ops Q S fuel (listed.setIfInBounds i true) (a.put oi.dst v) w → wpAnyH P md ops Q S (fuel + 1) listed a w := by
  intro fuel
  induction fuel with
  | zero =>
    intro listed a w _ hr hy hS H
    refine ⟨fun h => (by rw [h] at hr; cases hr), fun j hj => ?_⟩
    by_cases hji : j = i
    · subst hji
      exact hy.goes hi hS ⟨hS, H⟩
    · have h1 := ready_mono hj hji
      rw [H.1] at h1
      cases h1
  | succ fuel ih =>
    intro listed a w hfree hr hy hS H
    refine ⟨fun h => (by rw [h] at hr; cases hr), fun j hj => ?_⟩
    by_cases hji : j = i
    · subst hji
      exact hy.goes hi hS ⟨hS, H⟩
    · have h1 := H.2 j (ready_mono hj hji)
      obtain ⟨hjun, oj, hoj, hall⟩ := mem_ready.1 hj
      have hnot : ∀ e ∈ oj.after, Region.binds md e = true → e.on ≠ i := fun e he hb heq => by
        have q1 := hall e he hb
        have q0 := (mem_ready.1 hr).1
        rw [heq] at q1
        rcases Nat.lt_or_ge i listed.size with h' | h'
        · simp [h'] at q0 q1
          rw [q0] at q1
          cases q1
        · simp [Array.getElem?_eq_none h'] at q1
      have h2 := beside hoj (hfree j oj hoj hji hjun hnot) (fun cs b => hsel i oi cs b hi) (fun cs b => hsel j oj cs b hoj) hQ hy h1
      have hfree' : ∀ k ok, ops[k]? = some ok → k ≠ i → (listed.setIfInBounds j true).getD k true = false → (∀ e ∈ ok.after, Region.binds md e = true → e.on ≠ i) → oi.apart ops ok = true := fun k ok hk hki hun hno => by
        refine hfree k ok hk hki ?_ hno
        by_cases hjk : j = k
        · subst hjk
          exact hjun
        · rw [getD_set_ne true hjk] at hun
          exact hun
      refine wpOp_mono (fun a' w' h3 => ⟨h3.2.1, ih (listed.setIfInBounds j true) a' w' hfree' (ready_mono hr (Ne.symm hji)) h3.1 h3.2.1 ?_⟩) h2
      rw [Array.setIfInBounds_comm _ _ hji]
      exact h3.2.2
/-- A call that only looks, taken first. -/
theorem take {i : Nat} {oi : Oper} {v : Value} {fuel : Nat} {listed : Array Bool} {a : Act} {w : World} (hi : ops[i]? = some oi)
    (hs : Region.noSelect ops = true) (hf : Region.free md ops listed i = true) (hr : (Region.ready md ops listed).contains i = true)
    (hQ : ∀ c a w, Q (.panic c) (a.put oi.dst v) w → Q (.panic c) a w) (hy : Answers P ops S oi v a) (hS : S w)
    (h : wpAnyH P md ops Q S fuel (listed.setIfInBounds i true) (a.put oi.dst v) w) : wpAnyH P md ops Q S (fuel + 1) listed a w :=
  first hi (Region.noSelect_spec hs) hQ fuel listed a w (Region.free_spec hi hf) (by simpa using hr) hy hS h
end
end Go.Proofs.YtbilkeadhflibaaGreatDoor.HeldC

/- A region that draws, operation by operation, its operations' values given outright: calls that only look are taken first; of several that may come up each is gone through. Of no program. -/
namespace Go.Proofs.YtbilkeadhflibaaGreatDoor.Step
open Go Go.RowKit

section
variable {P : Program} {ops : Array Oper} {Q : Exit → Act → World → Prop} {md : Region.Mode} {S : World → Prop}
/-- A call that only looks, taken first. -/
theorem look {i : Nat} {d : Option Tmp} {v : Value} (f : FuncId) (args : Array Value) {fuel : Nat} {listed : Array Bool} {a : Act} {w : World}
    (hs : Region.noSelect ops = true) (hf : Region.free md ops listed i = true) (hr : (Region.ready md ops listed).contains i = true) (hd : dstAt ops i = some d) (hw : wantedAt ops i a.tmps = true)
    (hQ : ∀ c a w, Q (.panic c) (a.put d v) w → Q (.panic c) a w) (hS : S w) (hx : ∀ w, S w → runAt P ops i a.eval w = .ok (.enter f args) w) (hc : ∀ w, S w → Calls P f args w fun e w' => e = .returned v ∧ w' = w)
    (h : wpAnyH P md ops Q S fuel (listed.setIfInBounds i true) (a.put d v) w) : wpAnyH P md ops Q S (fuel + 1) listed a w := by
  obtain ⟨o, ho, rfl⟩ := of_dst hd
  unfold wantedAt at hw
  unfold runAt at hx
  rw [ho] at hw
  simp only [ho] at hx
  exact HeldC.take ho hs hf hr hQ ⟨hw, f, args, fun w hSw => ⟨hx w hSw, hc w hSw⟩⟩ hS h
/-- Number i goes from w to w'. -/
def Does (P : Program) (md : Region.Mode) (ops : Array Oper) (Q : Exit → Act → World → Prop) (S : World → Prop) (fuel : Nat) (listed : Array Bool) (a : Act) (w : World) (i : Nat) : Prop :=
  ∃ (d : Option Tmp) (v : Value) (w' : World) (n : Next), dstAt ops i = some d ∧ wantedAt ops i a.tmps = true ∧ runAt P ops i a.eval w = .ok n w' ∧ (n = .value v ∨ (n = .skip ∧ v = undef)) ∧ S w' ∧
    (S w' → wpAnyH P md ops Q S fuel (listed.setIfInBounds i true) (a.put d v) w')
theorem Does.goes {fuel : Nat} {listed : Array Bool} {a : Act} {w : World} {i : Nat} (h : Does P md ops Q S fuel listed a w i) :
    ∃ o, ops[i]? = some o ∧ ∀ K' : Act → World → Prop, Shut (∀ a w, S w → (S w → wpAnyH P md ops Q S fuel (listed.setIfInBounds i true) a w) → K' a w) → if Region.wanted o (yielded ops a.tmps) = true then Oper.wp P o a w K' Q else K' (a.put o.dst undef) w := by
  obtain ⟨d, v, w', n, hd, hw, hx, hn, hS, hk⟩ := h
  obtain ⟨o, ho, rfl⟩ := of_dst hd
  unfold wantedAt at hw
  unfold runAt at hx
  rw [ho] at hw
  simp only [ho] at hx
  refine ⟨o, ho, fun K' hK => ?_⟩
  rw [if_pos hw]
  unfold Oper.wp
  rw [hx]
  rcases hn with rfl | ⟨rfl, rfl⟩
  · exact hK.out _ _ hS hk
  · exact hK.out _ _ hS hk
theorem one {i : Nat} {fuel : Nat} {listed : Array Bool} {a : Act} {w : World} (hr : Region.ready md ops listed = [i]) (h : Does P md ops Q S fuel listed a w i) : wpAnyH P md ops Q S (fuel + 1) listed a w := by
  obtain ⟨o, ho, hK⟩ := h.goes
  exact wpAnyH_ready hr (by simp) (AllReadyH.cons ho hK AllReadyH.nil)
theorem two {i j : Nat} {fuel : Nat} {listed : Array Bool} {a : Act} {w : World} (hr : Region.ready md ops listed = [i, j]) (h : Does P md ops Q S fuel listed a w i) (h2 : Does P md ops Q S fuel listed a w j) : wpAnyH P md ops Q S (fuel + 1) listed a w := by
  obtain ⟨o, ho, hK⟩ := h.goes
  obtain ⟨o2, ho2, hK2⟩ := h2.goes
  exact wpAnyH_ready hr (by simp) (AllReadyH.cons ho hK (AllReadyH.cons ho2 hK2 AllReadyH.nil))
end
end Go.Proofs.YtbilkeadhflibaaGreatDoor.Step

/- What some operations yield, where their operands are known: of no function of the program. -/
namespace Go.Proofs.YtbilkeadhflibaaGreatDoor.Job
open Go.RowKit

section
variable {ops : Array Oper} {j : Nat} {ρ : Operand → Value} {x y : Operand} {w : World} {b i : Nat}
theorem rem_run (n k m : Nat) {t : TypeId} (hk : 0 < k) (hn : n < 9223372036854775808) (h : n % k = m) (ho : Step.opAt ops j = some (.binOp .rem 3 x y t)) (hx : ρ x = .int .i64 n) (hy : ρ y = .int .i64 k) : Step.runAt Tryz.prog ops j ρ w = .ok (.value (.int .i64 m)) w := by
  have hz : (k : Int) ≠ 0 := by omega
  have hz' : ((k : Int) == 0) = false := by simpa using hz
  have hk0 : ¬ k = 0 := by omega
  have ht : (n : Int).tmod (k : Int) = (m : Int) := by rw [Int.tmod_eq_emod_of_nonneg (by omega)]; omega
  have hm : m ≤ n := by rw [← h]; exact Nat.mod_le _ _
  have hw : IntKind.i64.wrap (m : Int) = (m : Int) := by rw [IntKind.wrap_i64]; omega
  refine Step.run_of ho fun o hop => ?_
  unfold execOp
  rw [hop]
  simp only [hx, hy]
  clear hk h hm hn
  go_simp
theorem add_run (n k m : Nat) {t : TypeId} (h : n + k = m) (hm : m < 9223372036854775808) (ho : Step.opAt ops j = some (.binOp .add 3 x y t)) (hx : ρ x = .int .i64 n) (hy : ρ y = .int .i64 k) : Step.runAt Tryz.prog ops j ρ w = .ok (.value (.int .i64 m)) w := by
  have ht : (n : Int) + (k : Int) = (m : Int) := by omega
  have hw : IntKind.i64.wrap (m : Int) = (m : Int) := by rw [IntKind.wrap_i64]; omega
  refine Step.run_of ho fun o hop => ?_
  unfold execOp
  rw [hop]
  simp only [hx, hy]
  clear h hm
  go_simp
theorem eql_run (n k : Nat) (r : Bool) {t : TypeId} (h : decide (n = k) = r) (ho : Step.opAt ops j = some (.binOp .eql 3 x y t)) (hx : ρ x = .int .i64 n) (hy : ρ y = .int .i64 k) : Step.runAt Tryz.prog ops j ρ w = .ok (.value (.bool r)) w := by
  have ht : ((n : Int) == (k : Int)) = r := by
    rw [← h]
    by_cases e : n = k
    · subst e; simp
    · rw [decide_eq_false e, beq_eq_false_iff_ne]; omega
  refine Step.run_of ho fun o hop => ?_
  unfold execOp
  rw [hop]
  simp only [hx, hy]
  clear h
  go_simp
theorem load_str {s : ByteArray} (ho : Step.opAt ops j = some (.load 9 x)) (hx : ρ x = .pointer (some ⟨b, i, none⟩)) (h : w.cell? ⟨b, i, none⟩ = some (.string s)) : Step.runAt Tryz.prog ops j ρ w = .ok (.value (.string s)) w := by
  refine Step.run_of ho fun o hop => ?_
  unfold execOp
  rw [hop]
  simp only [hx]
  go_simp
theorem load_texts {a : Option Addr} {n c : Nat} (ho : Step.opAt ops j = some (.load 28 x)) (hx : ρ x = .pointer (some ⟨b, i, none⟩)) (h : w.cell? ⟨b, i, none⟩ = some (.slice a n c)) : Step.runAt Tryz.prog ops j ρ w = .ok (.value (.slice a n c)) w := by
  refine Step.run_of ho fun o hop => ?_
  unfold execOp
  rw [hop]
  simp only [hx]
  go_simp
theorem at_run (g m n c : Nat) (hm : m < n) (ts : TypeId) (e : TypeId) (hu : Tryz.prog.underlying ts = some (.slice e)) (sz : Nat) (hs : ∀ w, (sizeOf e).run Tryz.prog w = .ok sz w) (ho : Step.opAt ops j = some (.indexAddr ts x y)) (hx : ρ x = .slice (some ⟨g, 0, none⟩) n c) (hy : ρ y = .int .i64 m) :
    Step.runAt Tryz.prog ops j ρ w = .ok (.value (.pointer (some ⟨g, m * sz, none⟩))) w := by
  have h1 : (m : Int) < (n : Int) := by omega
  have h0 : (0 : Int) ≤ (m : Int) := by omega
  refine Step.run_of ho fun o hop => ?_
  unfold execOp
  rw [hop]
  simp only [hx, hy]
  clear hm
  go_simp
theorem store_run {c c' : Array Value} {t : TypeId} (ho : Step.opAt ops j = some (.store t x y)) (hx : ρ x = .pointer (some ⟨b, 0, none⟩)) (hy : ρ y = .agg c') (hb : w.heap[b]? = some (.cells c t)) (hi : (Tryz.prog.info? t).map (·.size) = some c'.size) (hs : c.size = c'.size) (h1 : c'.all (·.oneCell') = true) :
    Step.runAt Tryz.prog ops j ρ w = .ok .skip (w.setRow b c') := by
  have hr := Whole.run_store (P := Tryz.prog) w b t c c' hb hi hs h1
  refine Step.run_of ho fun o hop => ?_
  unfold execOp
  simp only [hop, Sem.run_bind, Sem.run_pure, Result.andThen_ok, hx, hy, hr]
end
end Go.Proofs.YtbilkeadhflibaaGreatDoor.Job

/- What the law's own made answers, for every slice of bytes: a job that may be. -/
namespace Go.Proofs.YtbilkeadhflibaaGreatDoor.Job
open Go.RowKit Go.Proofs.YtbilkeadhflibaaGreatDoor.Wire Go.Proofs.YtbilkeadhflibaaGreatDoor.Vec Go.Proofs.YtbilkeadhflibaaGreatDoor.Sel Go.Proofs.YtbilkeadhflibaaGreatDoor.Texts Go.Proofs.YtbilkeadhflibaaGreatDoor.Args

def rowP : Obj := .cells #[.string ⟨#[97]⟩, .string ⟨#[97, 47, 98]⟩, .string ⟨#[98]⟩, .string ⟨#[206, 177, 206, 178, 47, 208, 180, 208, 190, 208, 188, 47, 99]⟩] 9
theorem nine_ok (P : ByteArray) (a b c d n m k : Int) (v : Value) (hv : v.oneCell' = true) : (#[Value.string P, .int .u64 a, .int .u64 b, .int .u64 c, .int .u64 d, .int .i64 n, .int .i64 m, .int .i64 k, v] : Array Value).all (·.oneCell') = true := by
  have : v.oneCell' = true := hv
  simp only [List.all_toArray, List.all_cons, List.all_nil, this]
  rfl
theorem rowP_at (w : World) (m : Nat) (hm : m < 4) : (w.alloc rowP).cell? ⟨w.heap.size, m, none⟩ = some (.string (pathAt m)) := by
  have h := heap_alloc_new w rowP
  unfold rowP at h ⊢
  rcases lt4 hm with rfl | rfl | rfl | rfl <;> exact cell_at h rfl
def zeroJ : Obj := box9 ⟨#[]⟩ 0 0 0 0 0 0 0 (.slice none 0 0)

/-- The amounts as far as they have been made. -/
def upD (bs : List UInt8) (j i : Nat) : Int := if i < j then (demAt bs i : Int) else 0
theorem store1_run {ops : Array Oper} {j : Nat} {ρ : Operand → Value} {x y : Operand} {w : World} {b i : Nat} {a a' : Option Addr} {n c n' c' : Nat} (ho : Step.opAt ops j = some (.store 25 x y)) (hx : ρ x = .pointer (some ⟨b, i, none⟩)) (hy : ρ y = .slice a' n' c')
    (h : w.cell? ⟨b, i, none⟩ = some (.slice a n c)) (hf : w.frozen? ⟨b, i, none⟩ = false) : Step.runAt Tryz.prog ops j ρ w = .ok .skip (w.setCell ⟨b, i, none⟩ (.slice a' n' c')) := by
  refine Step.run_of ho fun o hop => ?_
  unfold execOp
  rw [hop]
  simp only [hx, hy]
  go_simp
theorem size_sl1 (w : World) : (sizeOf 28).run Tryz.prog w = .ok 1 w := by kernel_rfl
theorem ix3_run (g : Nat) {m : Nat} (hm : m < 3) {ops : Array Oper} {j : Nat} {ρ : Operand → Value} {w : World} (ho : Step.opAt ops j = some (.indexAddr 100 (.tmp 53) (.tmp 56))) (hx : ρ (.tmp 53) = .slice (some ⟨g, 0, none⟩) 3 3) (hy : ρ (.tmp 56) = .int .i64 m) :
    Step.runAt Tryz.prog ops j ρ w = .ok (.value (.pointer (some ⟨g, m, none⟩))) w := by
  have := at_run (w := w) g m 3 3 hm 100 28 Tryz.underlying100 1 size_sl1 ho hx hy
  rwa [Nat.mul_one] at this
def rowA : Obj := .cells #[.string ⟨#[97]⟩] 9
def rowAB : Obj := .cells #[.string ⟨#[97]⟩, .string ⟨#[98]⟩] 9
def vals3 (gA gAB : Nat) : Array Value := #[.slice none 0 0, .slice (some ⟨gA, 0, none⟩) 1 1, .slice (some ⟨gAB, 0, none⟩) 2 2]
theorem row_vals {w : World} {gA gAB : Nat} (hA : w.heap[gA]? = some rowA) (hAB : w.heap[gAB]? = some rowAB) {m : Nat} (hm : m < 3) : ∃ a n c, (vals3 gA gAB)[m]? = some (.slice a n c) ∧ SRow w (.slice a n c) (valsAt m) := by
  have : m = 0 ∨ m = 1 ∨ m = 2 := by omega
  have lA := (Array.getElem?_eq_some_iff.1 hA).1
  have lAB := (Array.getElem?_eq_some_iff.1 hAB).1
  unfold rowA at hA
  unfold rowAB at hAB
  rcases this with rfl | rfl | rfl
  · exact ⟨_, _, _, rfl, .inl ⟨rfl, _, _, rfl, by unfold maxLen; omega⟩⟩
  · refine ⟨_, _, _, rfl, .inr ⟨by simp [valsAt], gA, 0, 1, rfl, lA, Nat.le_refl _, by unfold maxLen; omega, fun j t hj => ?_⟩⟩
    have h1 : j < 1 := (List.getElem?_eq_some_iff.1 hj).1
    obtain rfl : j = 0 := by omega
    injection hj with hj
    subst hj
    exact cell_at hA rfl
  · refine ⟨_, _, _, rfl, .inr ⟨by simp [valsAt], gAB, 0, 2, rfl, lAB, Nat.le_refl _, by unfold maxLen; omega, fun j t hj => ?_⟩⟩
    have h1 : j < 2 := (List.getElem?_eq_some_iff.1 hj).1
    have : j = 0 ∨ j = 1 := by omega
    rcases this with rfl | rfl
    · injection hj with hj
      subst hj
      exact cell_at hAB rfl
    · injection hj with hj
      subst hj
      exact cell_at hAB rfl
theorem one_row {w : World} {g : Nat} {k : ByteArray} {ne : Bool} {sv : Value} {ts : List ByteArray} (h : w.heap[g]? = some (.cells #[.string k, .bool ne, sv] 102)) (hs : SRow w sv ts) : TRow w (.slice (some ⟨g, 0, none⟩) 1 1) [(k, ne, ts)] := by
  refine .inr ⟨by simp, g, 0, 1, rfl, (Array.getElem?_eq_some_iff.1 h).1, Nat.le_refl _, by unfold maxLen; omega, fun j t hj => ?_⟩
  have h1 : j < 1 := (List.getElem?_eq_some_iff.1 hj).1
  obtain rfl : j = 0 := by omega
  injection hj with hj
  subst hj
  exact ⟨cell_at h rfl, cell_at h rfl, sv, cell_at h rfl, hs⟩
theorem way_facts {wr w2 w0 : World} {H T gA gAB m : Nat} {ne : Bool} {P : ByteArray} {a0 a1 a2 a3 n q t : Int} (hb : Below H w0 w2) (hHT : H ≤ T) (hz : H ≤ w0.heap.size) (h2 : Below wr.heap.size wr w2) (hA : w2.heap[gA]? = some rowA) (hAB : w2.heap[gAB]? = some rowAB)
    (hT : wr.heap[T]? = some (box9 P a0 a1 a2 a3 n q t (.slice none 0 0))) (hm : m < 3) :
    ∃ a k c, Below H w0 (w2.alloc (.cells (vals3 gA gAB) 28)) ∧ (w2.alloc (.cells (vals3 gA gAB) 28)).cell? ⟨w2.heap.size, m, none⟩ = some (.slice a k c) ∧
      Below H w0 ((w2.alloc (.cells (vals3 gA gAB) 28)).alloc (.cells #[.string ⟨#[122, 111, 110, 101]⟩, .bool ne, .slice a k c] 102)) ∧
      (((w2.alloc (.cells (vals3 gA gAB) 28)).alloc (.cells #[.string ⟨#[122, 111, 110, 101]⟩, .bool ne, .slice a k c] 102)).cell? ⟨T, 8, none⟩ = some (.slice none 0 0) ∧
        ((w2.alloc (.cells (vals3 gA gAB) 28)).alloc (.cells #[.string ⟨#[122, 111, 110, 101]⟩, .bool ne, .slice a k c] 102)).frozen? ⟨T, 8, none⟩ = false) ∧
      Below H w0 (((w2.alloc (.cells (vals3 gA gAB) 28)).alloc (.cells #[.string ⟨#[122, 111, 110, 101]⟩, .bool ne, .slice a k c] 102)).setCell ⟨T, 8, none⟩ (.slice (some ⟨(w2.alloc (.cells (vals3 gA gAB) 28)).heap.size, 0, none⟩) 1 1)) ∧
      (((w2.alloc (.cells (vals3 gA gAB) 28)).alloc (.cells #[.string ⟨#[122, 111, 110, 101]⟩, .bool ne, .slice a k c] 102)).setCell ⟨T, 8, none⟩ (.slice (some ⟨(w2.alloc (.cells (vals3 gA gAB) 28)).heap.size, 0, none⟩) 1 1)).heap[T]? = some (box9 P a0 a1 a2 a3 n q t (.slice (some ⟨(w2.alloc (.cells (vals3 gA gAB) 28)).heap.size, 0, none⟩) 1 1)) ∧
      TRow (((w2.alloc (.cells (vals3 gA gAB) 28)).alloc (.cells #[.string ⟨#[122, 111, 110, 101]⟩, .bool ne, .slice a k c] 102)).setCell ⟨T, 8, none⟩ (.slice (some ⟨(w2.alloc (.cells (vals3 gA gAB) 28)).heap.size, 0, none⟩) 1 1)) (.slice (some ⟨(w2.alloc (.cells (vals3 gA gAB) 28)).heap.size, 0, none⟩) 1 1) [(⟨#[122, 111, 110, 101]⟩, ne, valsAt m)] := by
  obtain ⟨a, k, c, hv, hs⟩ := row_vals hA hAB hm
  refine ⟨a, k, c, ?_⟩
  have hl := (Array.getElem?_eq_some_iff.1 hT).1
  have hwz := h2.size
  have b3 := grew w2 (.cells (vals3 gA gAB) 28)
  have c3 : (w2.alloc (.cells (vals3 gA gAB) 28)).heap[w2.heap.size]? = some (.cells (vals3 gA gAB) 28) := heap_alloc_new _ _
  generalize w2.alloc (.cells (vals3 gA gAB) 28) = w3 at b3 c3 ⊢
  have b4 := grew w3 (.cells #[.string ⟨#[122, 111, 110, 101]⟩, .bool ne, .slice a k c] 102)
  have c4 : (w3.alloc (.cells #[.string ⟨#[122, 111, 110, 101]⟩, .bool ne, .slice a k c] 102)).heap[w3.heap.size]? = some (.cells #[.string ⟨#[122, 111, 110, 101]⟩, .bool ne, .slice a k c] 102) := heap_alloc_new _ _
  generalize w3.alloc (.cells #[.string ⟨#[122, 111, 110, 101]⟩, .bool ne, .slice a k c] 102) = w4 at b4 c4 ⊢
  have h24 : Below w2.heap.size w2 w4 := grows b3 b4
  have hT4 : w4.heap[T]? = some (box9 P a0 a1 a2 a3 n q t (.slice none 0 0)) := (h24.block _ (by omega)).trans ((h2.block _ hl).trans hT)
  have k3 : Below H w0 w3 := hb.trans (b3.mono (Nat.le_trans hz hb.size))
  have k4 : Below H w0 w4 := k3.trans (b4.mono (Nat.le_trans hz k3.size))
  refine ⟨k3, cell_at c3 hv, k4, ⟨cell_at hT4 rfl, frozen_at hT4⟩, k4.setCell hHT _, setS_box hT4 _, setS_kept (one_row c4 (hs.below h24)) hT4 _ _ _⟩
theorem size_str1 (w : World) : (sizeOf 9).run Tryz.prog w = .ok 1 w := by kernel_rfl
theorem ix_run (g : Nat) {m : Nat} (hm : m < 4) {ops : Array Oper} {j : Nat} {ρ : Operand → Value} {w : World} (ho : Step.opAt ops j = some (.indexAddr 28 (.tmp 7) (.tmp 10))) (hx : ρ (.tmp 7) = .slice (some ⟨g, 0, none⟩) 4 4) (hy : ρ (.tmp 10) = .int .i64 m) :
    Step.runAt Tryz.prog ops j ρ w = .ok (.value (.pointer (some ⟨g, m, none⟩))) w := by
  have := at_run (w := w) g m 4 4 hm 28 9 Tryz.underlying28 1 size_str1 ho hx hy
  rwa [Nat.mul_one] at this
set_option maxRecDepth 100000 in
set_option maxHeartbeats 4000000 in
theorem made_any (v : Value) (bs : List UInt8) (w : World) (hv : Bytes w v bs) :
    Calls Tryz.prog 26 #[v] w fun e w' => (∃ u, e = .returned (valJ (madeJ bs) u) ∧ TRow w' u (terms (madeJ bs))) ∧ Below w.heap.size w w' := by
  have HV := Lib.hid hv
  obtain ⟨o, cap, hsl, _, _⟩ := hv
  subst hsl
  obtain ⟨b0, hb0⟩ : ∃ b, b = bAt bs 0 := ⟨_, rfl⟩
  obtain ⟨b1, hb1⟩ : ∃ b, b = bAt bs 1 := ⟨_, rfl⟩
  obtain ⟨b2, hb2⟩ : ∃ b, b = bAt bs 2 := ⟨_, rfl⟩
  obtain ⟨b3, hb3⟩ : ∃ b, b = bAt bs 3 := ⟨_, rfl⟩
  have HBs := Lib.hid (And.intro hb0 (And.intro hb1 (And.intro hb2 hb3)))
  have hl0 : b0 ≤ 255 := by rw [hb0]; exact bAt_lt bs 0
  have hl1 : b1 ≤ 255 := by rw [hb1]; exact bAt_lt bs 1
  have hl2 : b2 ≤ 255 := by rw [hb2]; exact bAt_lt bs 2
  have hl3 : b3 ≤ 255 := by rw [hb3]; exact bAt_lt bs 3
  have HAt : Hid (∀ W, Below w.heap.size w W → ∀ A, W.heap[A]? = some (.cells #[.slice o bs.length cap] 56) → ∀ i : Nat, i ≤ 100 → Calls Tryz.prog 62 #[.int .i64 i, .pointer (some ⟨A, 0, none⟩)] W fun e w' => e = .returned (.int .i64 (bAt bs i)) ∧ w' = W) := Lib.hid fun W h A hA i hi => at_any A _ bs i hi W (HV.out.below h) hA
  clear hb0 hb1 hb2 hb3
  go_enter Tryz.func26, Tryz.ntmps26
  go_upto_region 2 with fail
  obtain ⟨A, hAe⟩ : ∃ A, A = w.heap.size := ⟨_, rfl⟩
  obtain ⟨W, hW⟩ : ∃ W, W = (w.alloc (.cells #[.slice o bs.length cap] 56)).alloc zeroJ := ⟨_, rfl⟩
  have hA : W.heap[A]? = some (.cells #[.slice o bs.length cap] 56) := by
    rw [hW, hAe, heap_alloc_old _ _ (by simp)]
    exact heap_alloc_new _ _
  have hZ : W.heap[A + 1]? = some zeroJ := by rw [hW, hAe]; exact heap_alloc2_new _ _ _
  have hB : Below w.heap.size w W := by rw [hW]; exact ((Below.refl _ _).alloc (Nat.le_refl _) _).alloc (by simp) _
  unfold zeroJ box9 at hW
  rw [← hW, ← hAe]
  have HAe := Lib.hid hAe
  clear hW hAe
  have hlA := (Array.getElem?_eq_some_iff.1 hA).1
  have HAA := Lib.hid hA
  have HZ := Lib.hid hZ
  have HB := Lib.hid hB
  clear hA hZ hB
  obtain ⟨m, hm⟩ : ∃ m, m = b0 % 4 := ⟨_, rfl⟩
  have hm4 : m < 4 := by omega
  obtain ⟨n', hn'⟩ : ∃ n', n' = b1 % 8 := ⟨_, rfl⟩
  obtain ⟨n, hn⟩ : ∃ n, n = 1 + n' := ⟨_, rfl⟩
  obtain ⟨q, hq⟩ : ∃ q, q = b2 % 10 := ⟨_, rfl⟩
  obtain ⟨t', ht'⟩ : ∃ t', t' = b3 % 100 := ⟨_, rfl⟩
  obtain ⟨t, ht⟩ : ∃ t, t = 1 + t' := ⟨_, rfl⟩
  have hnb : n ≤ 8 := by omega
  have htb : t ≤ 100 := by omega
  obtain ⟨P, hP⟩ : ∃ P, P = pathAt m := ⟨_, rfl⟩
  have hd0 : Below W.heap.size W W.drew := (Below.refl _ _).drew
  have g1 : Below W.heap.size W (W.drew.alloc rowP) := hd0.alloc hd0.size _
  have g2 : Below W.heap.size W (W.drew.alloc zeroJ) := hd0.alloc hd0.size _
  have g3 : Below W.heap.size W ((W.drew.alloc rowP).alloc zeroJ) := g1.alloc g1.size _
  have g4 : Below W.heap.size W ((W.drew.alloc zeroJ).alloc rowP) := g2.alloc g2.size _
  have e1 := rowP_at W.drew m hm4
  have e2 := rowP_at (W.drew.alloc zeroJ) m hm4
  have e3 := ((grew (W.drew.alloc rowP) zeroJ).cell (p := ⟨W.drew.heap.size, m, none⟩) (by simp)).trans e1
  rw [← hP] at e1 e2 e3
  have HK : Hid (∀ W', Below W.heap.size W W' → ∀ i : Nat, i ≤ 100 → Calls Tryz.prog 62 #[.int .i64 i, .pointer (some ⟨A, 0, none⟩)] W' fun e w' => e = .returned (.int .i64 (bAt bs i)) ∧ w' = W') := Lib.hid fun W' h i hi => HAt.out W' (HB.out.trans (h.mono HB.out.size)) A ((h.block _ hlA).trans HAA.out) i hi
  have K0 : Hid (∀ W', Below W.heap.size W W' → Calls Tryz.prog 62 #[.int .i64 0, .pointer (some ⟨A, 0, none⟩)] W' fun e w' => e = .returned (.int .i64 b0) ∧ w' = W') := Lib.hid fun W' h => by rw [HBs.out.1]; exact HK.out W' h 0 (by omega)
  have K1 : Hid (∀ W', Below W.heap.size W W' → Calls Tryz.prog 62 #[.int .i64 1, .pointer (some ⟨A, 0, none⟩)] W' fun e w' => e = .returned (.int .i64 b1) ∧ w' = W') := Lib.hid fun W' h => by rw [HBs.out.2.1]; exact HK.out W' h 1 (by omega)
  have K2 : Hid (∀ W', Below W.heap.size W W' → Calls Tryz.prog 62 #[.int .i64 2, .pointer (some ⟨A, 0, none⟩)] W' fun e w' => e = .returned (.int .i64 b2) ∧ w' = W') := Lib.hid fun W' h => by rw [HBs.out.2.2.1]; exact HK.out W' h 2 (by omega)
  have K3 : Hid (∀ W', Below W.heap.size W W' → Calls Tryz.prog 62 #[.int .i64 3, .pointer (some ⟨A, 0, none⟩)] W' fun e w' => e = .returned (.int .i64 b3) ∧ w' = W') := Lib.hid fun W' h => by rw [HBs.out.2.2.2]; exact HK.out W' h 3 (by omega)
  have z1 : ((W.drew.alloc rowP).alloc zeroJ).heap[(W.drew.alloc rowP).heap.size]? = some zeroJ := heap_alloc_new _ _
  have z2 : ((W.drew.alloc zeroJ).alloc rowP).heap[W.drew.heap.size]? = some zeroJ := (grew (W.drew.alloc zeroJ) rowP).block W.drew.heap.size (by simp) |>.trans (heap_alloc_new _ _)
  have g5 := Whole.row_below g3 (g := (W.drew.alloc rowP).heap.size) (by simp) #[.string P, .int .u64 0, .int .u64 0, .int .u64 0, .int .u64 0, .int .i64 n, .int .i64 q, .int .i64 t, .slice none 0 0]
  have g6 := Whole.row_below g4 (g := W.drew.heap.size) (Nat.le_refl _) #[.string P, .int .u64 0, .int .u64 0, .int .u64 0, .int .u64 0, .int .i64 n, .int .i64 q, .int .i64 t, .slice none 0 0]
  have Hm := Lib.hid hm
  have Hn' := Lib.hid hn'
  have Hn := Lib.hid hn
  have Hq := Lib.hid hq
  have Ht' := Lib.hid ht'
  have Ht := Lib.hid ht
  have HP := Lib.hid hP
  clear hm hn' hn hq ht' ht hP
  have HVal : Hid (∀ u, valJ (madeJ bs) u = val9 P (demAt bs 0) (demAt bs 1) (demAt bs 2) (demAt bs 3) n q t u) := Lib.hid fun u => by
    rw [HP.out, Hm.out, Hn.out, Hn'.out, Hq.out, Ht.out, Ht'.out, HBs.out.1, HBs.out.2.1, HBs.out.2.2.1, HBs.out.2.2.2]
    rfl
  go_cut [4] (fun u wr => ∃ T, u = .pointer (some ⟨T, 0, none⟩) ∧ W.heap.size ≤ T ∧ wr.heap[T]? = some (box9 P 0 0 0 0 n q t (.slice none 0 0)) ∧ Below W.heap.size W wr)
  case first =>
    refine wp_region_held_drew (S := fun z => Below W.heap.size W z) (by kernel_rfl) hd0 (fun hHeld => ?_)
    (refine Step.take (i := 1) (d := some 8) (v := .func (.func 62) #[] #[.pointer (some ⟨A, 0, none⟩)]) (by kernel_rfl) (by kernel_rfl) (by kernel_rfl) (by kernel_rfl) (by kernel_rfl) (fun _ _ _ h => h) hHeld (fun _ hSw => by kernel_rfl) ?_)
    (refine Step.look (i := 2) (d := some 9) (v := .int .i64 b0) 62 #[.int .i64 0, .pointer (some ⟨A, 0, none⟩)] (by kernel_rfl) (by kernel_rfl) (by kernel_rfl) (by kernel_rfl) (by kernel_rfl) (fun _ _ _ h => h) hHeld (fun _ hSw => by kernel_rfl) (fun z hSw => K0.out z hSw) ?_)
    (refine Step.take (i := 3) (d := some 10) (v := .int .i64 (m : Nat)) (by kernel_rfl) (by kernel_rfl) (by kernel_rfl) (by kernel_rfl) (by kernel_rfl) (fun _ _ _ h => h) hHeld (fun _ hSw => rem_run b0 4 m (t := 3) (x := .tmp 9) (y := .const (.int .i64 4)) (by omega) (by omega) Hm.out.symm (by kernel_rfl) (by kernel_rfl) (by kernel_rfl)) ?_)
    (refine Step.take (i := 6) (d := some 13) (v := .func (.func 62) #[] #[.pointer (some ⟨A, 0, none⟩)]) (by kernel_rfl) (by kernel_rfl) (by kernel_rfl) (by kernel_rfl) (by kernel_rfl) (fun _ _ _ h => h) hHeld (fun _ hSw => by kernel_rfl) ?_)
    (refine Step.look (i := 7) (d := some 14) (v := .int .i64 b1) 62 #[.int .i64 1, .pointer (some ⟨A, 0, none⟩)] (by kernel_rfl) (by kernel_rfl) (by kernel_rfl) (by kernel_rfl) (by kernel_rfl) (fun _ _ _ h => h) hHeld (fun _ hSw => by kernel_rfl) (fun z hSw => K1.out z hSw) ?_)
    (refine Step.take (i := 8) (d := some 15) (v := .int .i64 (n' : Nat)) (by kernel_rfl) (by kernel_rfl) (by kernel_rfl) (by kernel_rfl) (by kernel_rfl) (fun _ _ _ h => h) hHeld (fun _ hSw => rem_run b1 8 n' (t := 3) (x := .tmp 14) (y := .const (.int .i64 8)) (by omega) (by omega) Hn'.out.symm (by kernel_rfl) (by kernel_rfl) (by kernel_rfl)) ?_)
    (refine Step.take (i := 9) (d := some 16) (v := .int .i64 (n : Nat)) (by kernel_rfl) (by kernel_rfl) (by kernel_rfl) (by kernel_rfl) (by kernel_rfl) (fun _ _ _ h => h) hHeld (fun _ hSw => add_run 1 n' n (t := 3) (x := .const (.int .i64 1)) (y := .tmp 15) Hn.out.symm (by omega) (by kernel_rfl) (by kernel_rfl) (by kernel_rfl)) ?_)
    (refine Step.take (i := 10) (d := some 17) (v := .func (.func 62) #[] #[.pointer (some ⟨A, 0, none⟩)]) (by kernel_rfl) (by kernel_rfl) (by kernel_rfl) (by kernel_rfl) (by kernel_rfl) (fun _ _ _ h => h) hHeld (fun _ hSw => by kernel_rfl) ?_)
    (refine Step.look (i := 11) (d := some 18) (v := .int .i64 b2) 62 #[.int .i64 2, .pointer (some ⟨A, 0, none⟩)] (by kernel_rfl) (by kernel_rfl) (by kernel_rfl) (by kernel_rfl) (by kernel_rfl) (fun _ _ _ h => h) hHeld (fun _ hSw => by kernel_rfl) (fun z hSw => K2.out z hSw) ?_)
    (refine Step.take (i := 12) (d := some 19) (v := .int .i64 (q : Nat)) (by kernel_rfl) (by kernel_rfl) (by kernel_rfl) (by kernel_rfl) (by kernel_rfl) (fun _ _ _ h => h) hHeld (fun _ hSw => rem_run b2 10 q (t := 3) (x := .tmp 18) (y := .const (.int .i64 10)) (by omega) (by omega) Hq.out.symm (by kernel_rfl) (by kernel_rfl) (by kernel_rfl)) ?_)
    (refine Step.take (i := 13) (d := some 20) (v := .func (.func 62) #[] #[.pointer (some ⟨A, 0, none⟩)]) (by kernel_rfl) (by kernel_rfl) (by kernel_rfl) (by kernel_rfl) (by kernel_rfl) (fun _ _ _ h => h) hHeld (fun _ hSw => by kernel_rfl) ?_)
    (refine Step.look (i := 14) (d := some 21) (v := .int .i64 b3) 62 #[.int .i64 3, .pointer (some ⟨A, 0, none⟩)] (by kernel_rfl) (by kernel_rfl) (by kernel_rfl) (by kernel_rfl) (by kernel_rfl) (fun _ _ _ h => h) hHeld (fun _ hSw => by kernel_rfl) (fun z hSw => K3.out z hSw) ?_)
    (refine Step.take (i := 15) (d := some 22) (v := .int .i64 (t' : Nat)) (by kernel_rfl) (by kernel_rfl) (by kernel_rfl) (by kernel_rfl) (by kernel_rfl) (fun _ _ _ h => h) hHeld (fun _ hSw => rem_run b3 100 t' (t := 3) (x := .tmp 21) (y := .const (.int .i64 100)) (by omega) (by omega) Ht'.out.symm (by kernel_rfl) (by kernel_rfl) (by kernel_rfl)) ?_)
    (refine Step.take (i := 16) (d := some 23) (v := .int .i64 (t : Nat)) (by kernel_rfl) (by kernel_rfl) (by kernel_rfl) (by kernel_rfl) (by kernel_rfl) (fun _ _ _ h => h) hHeld (fun _ hSw => add_run 1 t' t (t := 3) (x := .const (.int .i64 1)) (y := .tmp 22) Ht.out.symm (by omega) (by kernel_rfl) (by kernel_rfl) (by kernel_rfl)) ?_)
    refine Step.two (i := 0) (j := 18) (by kernel_rfl) ⟨some 7, .slice (some ⟨W.drew.heap.size, 0, none⟩) 4 4, W.drew.alloc rowP, .value (.slice (some ⟨W.drew.heap.size, 0, none⟩) 4 4), by kernel_rfl, by kernel_rfl, by kernel_rfl, .inl rfl, g1, fun hHeld => ?_⟩ ⟨some 4, .pointer (some ⟨W.drew.heap.size, 0, none⟩), W.drew.alloc zeroJ, .value (.pointer (some ⟨W.drew.heap.size, 0, none⟩)), by kernel_rfl, by kernel_rfl, by kernel_rfl, .inl rfl, g2, fun hHeld => ?_⟩
    · (refine Step.take (i := 4) (d := some 11) (v := .pointer (some ⟨W.drew.heap.size, m, none⟩)) (by kernel_rfl) (by kernel_rfl) (by kernel_rfl) (by kernel_rfl) (by kernel_rfl) (fun _ _ _ h => h) hHeld (fun _ hSw => ix_run W.drew.heap.size hm4 (by kernel_rfl) (by kernel_rfl) (by kernel_rfl)) ?_)
      refine Step.two (i := 5) (j := 18) (by kernel_rfl) ⟨some 12, .string P, W.drew.alloc rowP, .value (.string P), by kernel_rfl, by kernel_rfl, load_str (x := .tmp 11) (b := W.drew.heap.size) (i := m) (by kernel_rfl) (by kernel_rfl) e1, .inl rfl, g1, fun hHeld => ?_⟩ ⟨some 4, .pointer (some ⟨(W.drew.alloc rowP).heap.size, 0, none⟩), (W.drew.alloc rowP).alloc zeroJ, .value (.pointer (some ⟨(W.drew.alloc rowP).heap.size, 0, none⟩)), by kernel_rfl, by kernel_rfl, by kernel_rfl, .inl rfl, g3, fun hHeld => ?_⟩
      · (refine Step.take (i := 17) (d := some 24) (v := .agg #[.string P, .int .u64 0, .int .u64 0, .int .u64 0, .int .u64 0, .int .i64 n, .int .i64 q, .int .i64 t, .slice none 0 0]) (by kernel_rfl) (by kernel_rfl) (by kernel_rfl) (by kernel_rfl) (by kernel_rfl) (fun _ _ _ h => h) hHeld (fun _ hSw => by kernel_rfl) ?_)
        (refine Step.one (i := 18) (by kernel_rfl) ⟨some 4, .pointer (some ⟨(W.drew.alloc rowP).heap.size, 0, none⟩), (W.drew.alloc rowP).alloc zeroJ, .value (.pointer (some ⟨(W.drew.alloc rowP).heap.size, 0, none⟩)), by kernel_rfl, by kernel_rfl, by kernel_rfl, .inl rfl, g3, fun hHeld => ?_⟩)
        (refine Step.one (i := 19) (by kernel_rfl) ⟨none, undef, ((W.drew.alloc rowP).alloc zeroJ).setRow (W.drew.alloc rowP).heap.size #[.string P, .int .u64 0, .int .u64 0, .int .u64 0, .int .u64 0, .int .i64 n, .int .i64 q, .int .i64 t, .slice none 0 0], .skip, by kernel_rfl, by kernel_rfl, store_run (x := .tmp 4) (y := .tmp 24) (by kernel_rfl) (by kernel_rfl) (by kernel_rfl) z1 (by kernel_rfl) rfl (nine_ok P 0 0 0 0 n q t _ rfl), .inr ⟨rfl, rfl⟩, g5, fun hHeld => ?_⟩)
        refine wpAnyH_done (by kernel_rfl) ?_ _
        simp only [Act.put, List.setIfInBounds_toArray, List.set_cons_succ, List.set_cons_zero]
        have hz := setRow_heap _ _ _ #[.string P, .int .u64 0, .int .u64 0, .int .u64 0, .int .u64 0, .int .i64 n, .int .i64 q, .int .i64 t, .slice none 0 0] _ _ z1
        have hTl : W.heap.size ≤ (W.drew.alloc rowP).heap.size := by simp
        have gz := g5
        generalize ((W.drew.alloc rowP).alloc zeroJ).setRow (W.drew.alloc rowP).heap.size #[.string P, .int .u64 0, .int .u64 0, .int .u64 0, .int .u64 0, .int .i64 n, .int .i64 q, .int .i64 t, .slice none 0 0] = wz at hz gz ⊢
        generalize (W.drew.alloc rowP).heap.size = T at hz hTl ⊢
        go_wp2_with fail
        go_meet
        exact ⟨T, rfl, hTl, hz, gz⟩
      · (refine Step.one (i := 5) (by kernel_rfl) ⟨some 12, .string P, (W.drew.alloc rowP).alloc zeroJ, .value (.string P), by kernel_rfl, by kernel_rfl, load_str (x := .tmp 11) (b := W.drew.heap.size) (i := m) (by kernel_rfl) (by kernel_rfl) e3, .inl rfl, g3, fun hHeld => ?_⟩)
        (refine Step.take (i := 17) (d := some 24) (v := .agg #[.string P, .int .u64 0, .int .u64 0, .int .u64 0, .int .u64 0, .int .i64 n, .int .i64 q, .int .i64 t, .slice none 0 0]) (by kernel_rfl) (by kernel_rfl) (by kernel_rfl) (by kernel_rfl) (by kernel_rfl) (fun _ _ _ h => h) hHeld (fun _ hSw => by kernel_rfl) ?_)
        (refine Step.one (i := 19) (by kernel_rfl) ⟨none, undef, ((W.drew.alloc rowP).alloc zeroJ).setRow (W.drew.alloc rowP).heap.size #[.string P, .int .u64 0, .int .u64 0, .int .u64 0, .int .u64 0, .int .i64 n, .int .i64 q, .int .i64 t, .slice none 0 0], .skip, by kernel_rfl, by kernel_rfl, store_run (x := .tmp 4) (y := .tmp 24) (by kernel_rfl) (by kernel_rfl) (by kernel_rfl) z1 (by kernel_rfl) rfl (nine_ok P 0 0 0 0 n q t _ rfl), .inr ⟨rfl, rfl⟩, g5, fun hHeld => ?_⟩)
        refine wpAnyH_done (by kernel_rfl) ?_ _
        simp only [Act.put, List.setIfInBounds_toArray, List.set_cons_succ, List.set_cons_zero]
        have hz := setRow_heap _ _ _ #[.string P, .int .u64 0, .int .u64 0, .int .u64 0, .int .u64 0, .int .i64 n, .int .i64 q, .int .i64 t, .slice none 0 0] _ _ z1
        have hTl : W.heap.size ≤ (W.drew.alloc rowP).heap.size := by simp
        have gz := g5
        generalize ((W.drew.alloc rowP).alloc zeroJ).setRow (W.drew.alloc rowP).heap.size #[.string P, .int .u64 0, .int .u64 0, .int .u64 0, .int .u64 0, .int .i64 n, .int .i64 q, .int .i64 t, .slice none 0 0] = wz at hz gz ⊢
        generalize (W.drew.alloc rowP).heap.size = T at hz hTl ⊢
        go_wp2_with fail
        go_meet
        exact ⟨T, rfl, hTl, hz, gz⟩
    · (refine Step.one (i := 0) (by kernel_rfl) ⟨some 7, .slice (some ⟨(W.drew.alloc zeroJ).heap.size, 0, none⟩) 4 4, (W.drew.alloc zeroJ).alloc rowP, .value (.slice (some ⟨(W.drew.alloc zeroJ).heap.size, 0, none⟩) 4 4), by kernel_rfl, by kernel_rfl, by kernel_rfl, .inl rfl, g4, fun hHeld => ?_⟩)
      (refine Step.take (i := 4) (d := some 11) (v := .pointer (some ⟨(W.drew.alloc zeroJ).heap.size, m, none⟩)) (by kernel_rfl) (by kernel_rfl) (by kernel_rfl) (by kernel_rfl) (by kernel_rfl) (fun _ _ _ h => h) hHeld (fun _ hSw => ix_run (W.drew.alloc zeroJ).heap.size hm4 (by kernel_rfl) (by kernel_rfl) (by kernel_rfl)) ?_)
      (refine Step.one (i := 5) (by kernel_rfl) ⟨some 12, .string P, (W.drew.alloc zeroJ).alloc rowP, .value (.string P), by kernel_rfl, by kernel_rfl, load_str (x := .tmp 11) (b := (W.drew.alloc zeroJ).heap.size) (i := m) (by kernel_rfl) (by kernel_rfl) e2, .inl rfl, g4, fun hHeld => ?_⟩)
      (refine Step.take (i := 17) (d := some 24) (v := .agg #[.string P, .int .u64 0, .int .u64 0, .int .u64 0, .int .u64 0, .int .i64 n, .int .i64 q, .int .i64 t, .slice none 0 0]) (by kernel_rfl) (by kernel_rfl) (by kernel_rfl) (by kernel_rfl) (by kernel_rfl) (fun _ _ _ h => h) hHeld (fun _ hSw => by kernel_rfl) ?_)
      (refine Step.one (i := 19) (by kernel_rfl) ⟨none, undef, ((W.drew.alloc zeroJ).alloc rowP).setRow W.drew.heap.size #[.string P, .int .u64 0, .int .u64 0, .int .u64 0, .int .u64 0, .int .i64 n, .int .i64 q, .int .i64 t, .slice none 0 0], .skip, by kernel_rfl, by kernel_rfl, store_run (x := .tmp 4) (y := .tmp 24) (by kernel_rfl) (by kernel_rfl) (by kernel_rfl) z2 (by kernel_rfl) rfl (nine_ok P 0 0 0 0 n q t _ rfl), .inr ⟨rfl, rfl⟩, g6, fun hHeld => ?_⟩)
      refine wpAnyH_done (by kernel_rfl) ?_ _
      simp only [Act.put, List.setIfInBounds_toArray, List.set_cons_succ, List.set_cons_zero]
      have hz := setRow_heap _ _ _ #[.string P, .int .u64 0, .int .u64 0, .int .u64 0, .int .u64 0, .int .i64 n, .int .i64 q, .int .i64 t, .slice none 0 0] _ _ z2
      have hTl : W.heap.size ≤ W.drew.heap.size := Nat.le_refl _
      have gz := g6
      generalize ((W.drew.alloc zeroJ).alloc rowP).setRow W.drew.heap.size #[.string P, .int .u64 0, .int .u64 0, .int .u64 0, .int .u64 0, .int .i64 n, .int .i64 q, .int .i64 t, .slice none 0 0] = wz at hz gz ⊢
      generalize W.drew.heap.size = T at hz hTl ⊢
      go_wp2_with fail
      go_meet
      exact ⟨T, rfl, hTl, hz, gz⟩
  case rest =>
    obtain ⟨T, rfl, hT, hTb, hbc⟩ := hcut
    have HTb := Lib.hid hTb
    have HBc := Lib.hid hbc
    have HTl := Lib.hid hT
    have HL : Hid (∀ j : Nat, bAt bs j ≤ 255) := Lib.hid (bAt_lt bs)
    clear g1 g2 g3 g4 g5 g6 e1 e2 e3 z1 z2 hd0 hTb hbc hT hl1 hl2 hl3 hnb htb hm4
    go_wp2_with fail
    go_loopw [5] (fun k wr => ∃ j : Nat, j ≤ 4 ∧ k = .int .i64 j ∧ wr.heap[T]? = some (box9 P (upD bs j 0) (upD bs j 1) (upD bs j 2) (upD bs j 3) n q t (.slice none 0 0)) ∧ Below W.heap.size W wr) (fun k _ => 4 - (intOf k).toNat)
    case atStart => exact ⟨0, by omega, rfl, HTb.out, HBc.out⟩
    case round =>
      obtain ⟨j, hj, rfl, hTr, hbr⟩ := hrel
      have HTr := Lib.hid hTr
      have HBr := Lib.hid hbr
      by_cases hlt : j < 4
      · have hltz : (j : Int) < 4 := by omega
        have hj0 : (0 : Int) ≤ (j : Int) := by omega
        obtain ⟨x, hx⟩ : ∃ x, x = bAt bs (4 + j) := ⟨_, rfl⟩
        obtain ⟨y, hy⟩ : ∃ y, y = bAt bs (8 + j) := ⟨_, rfl⟩
        have hx9 : x ≤ 255 := by rw [hx]; exact HL.out _
        have hy9 : y ≤ 255 := by rw [hy]; exact HL.out _
        have KA : Hid (Calls Tryz.prog 62 #[.int .i64 (4 + j), .pointer (some ⟨A, 0, none⟩)] wr fun e w' => e = .returned (.int .i64 x) ∧ w' = wr) := Lib.hid (by
          rw [hx]
          have := HK.out wr hbr (4 + j) (by omega)
          rwa [show ((4 + j : Nat) : Int) = 4 + (j : Int) by omega] at this)
        have KB : Hid (Calls Tryz.prog 62 #[.int .i64 (8 + j), .pointer (some ⟨A, 0, none⟩)] wr fun e w' => e = .returned (.int .i64 y) ∧ w' = wr) := Lib.hid (by
          rw [hy]
          have := HK.out wr hbr (8 + j) (by omega)
          rwa [show ((8 + j : Nat) : Int) = 8 + (j : Int) by omega] at this)
        obtain ⟨z, hz⟩ : ∃ z, z = y % 50 := ⟨_, rfl⟩
        have hz50 : z < 50 := by omega
        have hzt : (y : Int).tmod 50 = (z : Int) := by rw [Int.tmod_eq_emod_of_nonneg (by omega)]; omega
        have hze : (y : Int) % 50 = (z : Int) := by omega
        have Hxyz := Lib.hid (And.intro hx (And.intro hy hz))
        have hw4 : IntKind.i64.wrap (4 + (j : Int)) = 4 + (j : Int) := by rw [IntKind.wrap_i64]; omega
        have hw8 : IntKind.i64.wrap (8 + (j : Int)) = 8 + (j : Int) := by rw [IntKind.wrap_i64]; omega
        have hwx : IntKind.u64.wrap (x : Int) = (x : Int) := by rw [IntKind.wrap_u64]; omega
        clear hx hy hz hy9 hTr hbr
        obtain ⟨D, hD⟩ : ∃ D, D = demAt bs j := ⟨_, rfl⟩
        have hwd : IntKind.u64.wrap ((x : Int) * 2 ^ z) = (D : Int) := by
          have h1 : D = x * 2 ^ z := by rw [hD, Hxyz.out.1, Hxyz.out.2.2, Hxyz.out.2.1]; rfl
          have h2 := demAt_lt bs j
          have h3 : (x : Int) * 2 ^ z = ((x * 2 ^ z : Nat) : Int) := by rw [Int.natCast_mul, Int.natCast_pow]; rfl
          rw [h3, ← h1, IntKind.wrap_u64]
          omega
        obtain ⟨cv, cT, fT, hbx⟩ : ∃ cv, wr.cell? ⟨T, 1 + j, none⟩ = some cv ∧ wr.frozen? ⟨T, 1 + j, none⟩ = false ∧
            (wr.setCell ⟨T, 1 + j, none⟩ (.int .u64 D)).heap[T]? = some (box9 P (upD bs (j + 1) 0) (upD bs (j + 1) 1) (upD bs (j + 1) 2) (upD bs (j + 1) 3) n q t (.slice none 0 0)) := by
          obtain ⟨⟨c0, c1, c2, c3, c4, c5, c6, c7, c8⟩, f0, f1, f2, f3, f4, f5, f6, f7, f8⟩ := cells9 HTr.out
          have h := HTr.out
          rw [hD]
          clear hwd KA KB
          unfold box9 at h
          rcases lt4 hlt with rfl | rfl | rfl | rfl
          · exact ⟨_, c1, f1, heap_setCell_same _ T 1 _ _ _ h⟩
          · exact ⟨_, c2, f2, heap_setCell_same _ T 2 _ _ _ h⟩
          · exact ⟨_, c3, f3, heap_setCell_same _ T 3 _ _ _ h⟩
          · exact ⟨_, c4, f4, heap_setCell_same _ T 4 _ _ _ h⟩
        have hbs := HBr.out.setCell (p := ⟨T, 1 + j, none⟩) HTl.out (.int .u64 D)
        have HBx := Lib.hid (And.intro hbx hbs)
        clear hbx hbs hD hx9
        go_wp2_with fail
        refine KA.out.mono ?_
        rintro e w5 ⟨rfl, rfl⟩
        go_wp2_with fail
        refine KB.out.mono ?_
        rintro e w6 ⟨rfl, rfl⟩
        go_wp2
        go_roundw
        case rel => exact ⟨j + 1, by omega, by go_num, HBx.out.1, HBx.out.2⟩
        case measure => simp [intOf]; omega
      · have hj4 : j = 4 := by omega
        subst hj4
        obtain ⟨D0, hD0⟩ : ∃ D : Int, D = demAt bs 0 := ⟨_, rfl⟩
        obtain ⟨D1, hD1⟩ : ∃ D : Int, D = demAt bs 1 := ⟨_, rfl⟩
        obtain ⟨D2, hD2⟩ : ∃ D : Int, D = demAt bs 2 := ⟨_, rfl⟩
        obtain ⟨D3, hD3⟩ : ∃ D : Int, D = demAt bs 3 := ⟨_, rfl⟩
        have HTr : Hid (wr.heap[T]? = some (box9 P D0 D1 D2 D3 n q t (.slice none 0 0))) := Lib.hid (by rw [hD0, hD1, hD2, hD3]; exact HTr.out)
        rw [← hD0, ← hD1, ← hD2, ← hD3] at HVal
        clear hD0 hD1 hD2 hD3 hTr hj
        obtain ⟨b12, hb12⟩ : ∃ x, x = bAt bs 12 := ⟨_, rfl⟩
        obtain ⟨b13, hb13⟩ : ∃ x, x = bAt bs 13 := ⟨_, rfl⟩
        have hl12 : b12 ≤ 255 := by rw [hb12]; exact HL.out _
        have hl13 : b13 ≤ 255 := by rw [hb13]; exact HL.out _
        have K12 : Hid (∀ W', Below W.heap.size W W' → Calls Tryz.prog 62 #[.int .i64 12, .pointer (some ⟨A, 0, none⟩)] W' fun e w' => e = .returned (.int .i64 b12) ∧ w' = W') := Lib.hid fun W' h => by rw [hb12]; exact HK.out W' h 12 (by omega)
        have K13 : Hid (∀ W', Below W.heap.size W W' → Calls Tryz.prog 62 #[.int .i64 13, .pointer (some ⟨A, 0, none⟩)] W' fun e w' => e = .returned (.int .i64 b13) ∧ w' = W') := Lib.hid fun W' h => by rw [hb13]; exact HK.out W' h 13 (by omega)
        obtain ⟨r3, hr3⟩ : ∃ x, x = b12 % 3 := ⟨_, rfl⟩
        have hr3t : (b12 : Int).tmod 3 = (r3 : Int) := by rw [Int.tmod_eq_emod_of_nonneg (by omega)]; omega
        have hr3e : (b12 : Int) % 3 = (r3 : Int) := by omega
        have HR0 : Hid (wr.heap[A + 1]? = some zeroJ) := Lib.hid ((hbr.block _ (Array.getElem?_eq_some_iff.1 HZ.out).1).trans HZ.out)
        by_cases hs : 0 < r3
        · have hsz : (0 : Int) < (r3 : Int) := by omega
          obtain ⟨r2, hr2⟩ : ∃ x, x = b12 % 2 := ⟨_, rfl⟩
          obtain ⟨ne, hne⟩ : ∃ x, x = decide (r2 = 1) := ⟨_, rfl⟩
          obtain ⟨m3, hm3e⟩ : ∃ x, x = b13 % 3 := ⟨_, rfl⟩
          have hm3 : m3 < 3 := by omega
          have HTm : Hid (terms (madeJ bs) = [(⟨#[122, 111, 110, 101]⟩, ne, valsAt m3)]) := Lib.hid (by
            show termsOf bs = _
            unfold termsOf
            rw [← hb12, ← hb13, ← hr3, if_pos hs, ← hr2, ← hm3e, ← hne])
          have R2 := Lib.hid hr2
          have NE := Lib.hid hne
          have M3 := Lib.hid hm3e
          clear hr2 hne hm3e hb12 hb13 hr3
          go_wp2_with fail
          refine (K12.out _ hbr).mono ?_
          rintro e wr ⟨rfl, rfl⟩
          have e2 : ((r2 : Int) == 1) = ne := by
            rw [NE.out]
            by_cases e : r2 = 1
            · subst e; rfl
            · rw [decide_eq_false e, beq_eq_false_iff_ne]; omega
          have e2t : (b12 : Int).tmod 2 = (r2 : Int) := by have := R2.out; rw [Int.tmod_eq_emod_of_nonneg (by omega)]; omega
          have e2e : (b12 : Int) % 2 = (r2 : Int) := by have := R2.out; omega
          have e3t : (b13 : Int).tmod 3 = (m3 : Int) := by have := M3.out; rw [Int.tmod_eq_emod_of_nonneg (by omega)]; omega
          have e3e : (b13 : Int) % 3 = (m3 : Int) := by have := M3.out; omega
          have hm3z : (m3 : Int) < 3 := by omega
          have hm30 : (0 : Int) ≤ (m3 : Int) := by omega
          have p1 : Below W.heap.size W (wr.alloc rowA) := HBr.out.alloc HBr.out.size _
          have p2 : Below W.heap.size W ((wr.alloc rowA).alloc rowAB) := p1.alloc p1.size _
          have xA : ((wr.alloc rowA).alloc rowAB).heap[wr.heap.size]? = some rowA := ((grew (wr.alloc rowA) _).block _ (by simp)).trans (heap_alloc_new _ _)
          have xB : ((wr.alloc rowA).alloc rowAB).heap[wr.heap.size + 1]? = some rowAB := by
            have h := heap_alloc_new (wr.alloc rowA) rowAB
            rwa [World.size_alloc] at h
          obtain ⟨sa, sk, sc, p3, l, p4, ⟨t1, t2⟩, p5, hX, hrow⟩ := way_facts (ne := ne) (gA := wr.heap.size) (gAB := wr.heap.size + 1) p2 HTl.out (Nat.le_refl _) (((Below.refl wr.heap.size wr).alloc (Nat.le_refl _) _).alloc (by simp) _) xA xB HTr.out hm3
          simp only [vals3, rowA, rowAB, World.size_alloc] at p3 l p4 t1 t2 p5 hX hrow
          have P5 := Lib.hid p5
          have HX := Lib.hid hX
          have HRw := Lib.hid hrow
          have P3 := Lib.hid p3
          clear p1 p2 p3 p4 p5 xA xB hX hrow
          go_wp2_with fail
          refine (K12.out _ hbr).mono ?_
          rintro e wr ⟨rfl, rfl⟩
          go_wp2_with fail
          refine (K13.out _ P3.out).mono ?_
          rintro e w9 ⟨rfl, rfl⟩
          go_upto_region 9 with fail
          have hX := HX.out
          have hbz := P5.out
          have hrow := HRw.out
          generalize (((((wr.alloc (.cells #[.string ⟨#[97]⟩] 9)).alloc (.cells #[.string ⟨#[97]⟩, .string ⟨#[98]⟩] 9)).alloc (.cells #[.slice none 0 0, .slice (some ⟨wr.heap.size, 0, none⟩) 1 1, .slice (some ⟨wr.heap.size + 1, 0, none⟩) 2 2] 28)).alloc (.cells #[.string ⟨#[122, 111, 110, 101]⟩, .bool ne, .slice sa sk sc] 102)).setCell ⟨T, 8, none⟩ (.slice (some ⟨wr.heap.size + 1 + 1 + 1, 0, none⟩) 1 1)) = wz at hX hbz hrow ⊢
          generalize wr.heap.size + 1 + 1 + 1 = G at hX hrow ⊢
          clear HX P5 HRw P3 t1 t2 l e2 e2t e2e e3t e3e hm3z hm30
          have HX := Lib.hid hX
          clear hX
          have HR0 : Hid (wz.heap[A + 1]? = some zeroJ) := Lib.hid ((hbz.block _ (Array.getElem?_eq_some_iff.1 HZ.out).1).trans HZ.out)
          have HBz : Hid (Below w.heap.size w wz) := Lib.hid (HB.out.trans (hbz.mono HB.out.size))
          have hAw : w.heap.size ≤ A + 1 := by have := HAe.out; omega
          have hTA : T ≠ A + 1 := by have := (Array.getElem?_eq_some_iff.1 HZ.out).1; have := HTl.out; omega
          obtain ⟨⟨c0, c1, c2, c3, c4, c5, c6, c7, c8⟩, f0, f1, f2, f3, f4, f5, f6, f7, f8⟩ := cells9 HX.out
          obtain ⟨⟨y0, y1, y2, y3, y4, y5, y6, y7, y8⟩, g0, g1, g2, g3, g4, g5, g6, g7, g8⟩ := cells9 HR0.out
          have HR9 := Lib.hid (set9_box HR0.out P D0 D1 D2 D3 n q t (.slice (some ⟨G, 0, none⟩) 1 1))
          have HB9 := Lib.hid (set9_below (T := A + 1) (p := P) (a0 := D0) (a1 := D1) (a2 := D2) (a3 := D3) (n := n) (m := q) (k := t) (s := .slice (some ⟨G, 0, none⟩) 1 1) HBz.out (by omega))
          have HW9 := Lib.hid (fresh_kept hrow (by rw [← HTm.out]; exact termsOf_right bs) HR0.out P D0 D1 D2 D3 n q t (some ⟨G, 0, none⟩) 1 1)
          go_wp2
          obtain ⟨⟨d0, d1, d2, d3, d4, d5, d6, d7, d8⟩, _⟩ := cells9 HR9.out
          have hB := HB9.out
          have hW := HW9.out
          unfold set9 at d0 d1 d2 d3 d4 d5 d6 d7 d8 hB hW
          refine bodyPost_ret (v := val9 P D0 D1 D2 D3 n q t (.slice (some ⟨G, 0, none⟩) 1 1)) (by simp [results, Tryz.results26, val9, go_sem, d0, d1, d2, d3, d4, d5, d6, d7, d8]) rfl ?_
          exact ⟨⟨_, by rw [HVal.out], by rw [HTm.out]; exact hW⟩, hB⟩
        · have hsz : ¬ (0 : Int) < (r3 : Int) := by omega
          have HTm : Hid (terms (madeJ bs) = []) := Lib.hid (by
            show termsOf bs = _
            unfold termsOf
            rw [← hb12, ← hr3, if_neg hs])
          clear hb12 hb13 hr3
          go_wp2_with fail
          refine (K12.out _ hbr).mono ?_
          rintro e wr ⟨rfl, rfl⟩
          have hbz := HBr.out
          have HX := HTr
          have HR0 : Hid (wr.heap[A + 1]? = some zeroJ) := Lib.hid ((hbz.block _ (Array.getElem?_eq_some_iff.1 HZ.out).1).trans HZ.out)
          have HBz : Hid (Below w.heap.size w wr) := Lib.hid (HB.out.trans (hbz.mono HB.out.size))
          have hAw : w.heap.size ≤ A + 1 := by have := HAe.out; omega
          have hTA : T ≠ A + 1 := by have := (Array.getElem?_eq_some_iff.1 HZ.out).1; have := HTl.out; omega
          obtain ⟨⟨c0, c1, c2, c3, c4, c5, c6, c7, c8⟩, f0, f1, f2, f3, f4, f5, f6, f7, f8⟩ := cells9 HX.out
          obtain ⟨⟨y0, y1, y2, y3, y4, y5, y6, y7, y8⟩, g0, g1, g2, g3, g4, g5, g6, g7, g8⟩ := cells9 HR0.out
          have HR9 := Lib.hid (set9_box HR0.out P D0 D1 D2 D3 n q t (.slice none 0 0))
          have HB9 := Lib.hid (set9_below (T := A + 1) (p := P) (a0 := D0) (a1 := D1) (a2 := D2) (a3 := D3) (n := n) (m := q) (k := t) (s := .slice none 0 0) HBz.out (by omega))
          have HW9 := Lib.hid (TRow.nil (set9 (A + 1) P D0 D1 D2 D3 n q t (.slice none 0 0) wr))
          go_wp2
          obtain ⟨⟨d0, d1, d2, d3, d4, d5, d6, d7, d8⟩, _⟩ := cells9 HR9.out
          have hB := HB9.out
          have hW := HW9.out
          unfold set9 at d0 d1 d2 d3 d4 d5 d6 d7 d8 hB hW
          refine bodyPost_ret (v := val9 P D0 D1 D2 D3 n q t (.slice none 0 0)) (by simp [results, Tryz.results26, val9, go_sem, d0, d1, d2, d3, d4, d5, d6, d7, d8]) rfl ?_
          exact ⟨⟨_, by rw [HVal.out], by rw [HTm.out]; exact hW⟩, hB⟩
end Go.Proofs.YtbilkeadhflibaaGreatDoor.Job

/- What is got of bytes is put as they stand; of what is put of a job no beginning is got: no program. -/
namespace Go.Proofs.YtbilkeadhflibaaGreatDoor.Job
open Go.RowKit Go.Proofs.YtbilkeadhflibaaGreatDoor.Wire Go.Proofs.YtbilkeadhflibaaGreatDoor.Vec Go.Proofs.YtbilkeadhflibaaGreatDoor.Sel Go.Proofs.YtbilkeadhflibaaGreatDoor.Forms

theorem putV_congr {xs ys : Nat → Nat} : ∀ (N : Nat), (∀ k, k < N → xs k = ys k) → putV xs N = putV ys N
  | 0, _ => rfl
  | N + 1, h => by
    show putV xs N ++ putL (xs N) = putV ys N ++ putL (ys N)
    rw [putV_congr N (fun k hk => h k (by omega)), h N (by omega)]
theorem chain_back {l : List UInt8} {q : Nat} (hq : q ≤ l.length) : ∀ (N : Nat), (∀ k, k < N → okAt l (q : Int) k = true) →
    ∃ R : Nat, posAt l (q : Int) N = (R : Int) ∧ q ≤ R ∧ R ≤ l.length ∧ l.drop q = putV (valN l (q : Int)) N ++ l.drop R
  | 0, _ => ⟨q, rfl, Nat.le_refl _, hq, rfl⟩
  | N + 1, h => by
    obtain ⟨R, h1, h2, h3, h4⟩ := chain_back hq N (fun k hk => h k (by omega))
    have hk := h N (by omega)
    unfold okAt at hk
    cases hg : getV l (posAt l (q : Int) N) with
    | none => rw [hg] at hk; cases hk
    | some x =>
      obtain ⟨u, n⟩ := x
      have hp : posAt l (q : Int) (N + 1) = (n : Int) := by
        show (match getV l (posAt l (q : Int) N) with | some x => (x.2 : Int) | none => 0) = _
        rw [hg]
      have hv : valN l (q : Int) N = u := by
        unfold valN
        rw [hg]
      rw [h1] at hg
      obtain ⟨_, b1, b2, _, b3, _, r, hr⟩ := getV_lt hg
      simp only [Int.toNat_natCast] at b1 b3 hr
      refine ⟨n, hp, by omega, b2, ?_⟩
      have hd : l.drop n = r := by rw [b3, ← List.drop_drop, hr, List.drop_left]
      show _ = (putV (valN l (q : Int)) N ++ putL (valN l (q : Int) N)) ++ l.drop n
      rw [h4, hr, hv, hd, List.append_assoc]
theorem text_back {s : ByteArray} {p : Int} {m a n : Nat} (h : Wire.textV s.data.toList p (m : Int) = some (a, n)) :
    ∃ P : Nat, p = (P : Int) ∧ P ≤ n ∧ n ≤ s.data.toList.length ∧ s.data.toList.drop P = flat (s.extract a n) ++ s.data.toList.drop n := by
  unfold Wire.textV at h
  split at h
  · simp at h
  rename_i x hx
  split at h
  · simp at h
  rename_i hc
  simp only [Option.some.injEq, Prod.mk.injEq] at h
  obtain ⟨u, k⟩ := x
  obtain ⟨rfl, rfl⟩ := h
  obtain ⟨_, b1, b2, b0, b3, _, r, hr⟩ := getV_lt hx
  obtain ⟨P, rfl⟩ := Int.eq_ofNat_of_zero_le b0
  simp only [Int.toNat_natCast] at b1 b3 hr
  dsimp only at hc ⊢
  have hle : k + u ≤ s.data.toList.length := by omega
  refine ⟨P, rfl, by omega, hle, ?_⟩
  have hsz : (s.extract k (k + u)).size = u := by
    rw [ByteArray.size_extract]
    rw [size_list] at hle
    omega
  have hd : s.data.toList.drop k = r := by rw [b3, ← List.drop_drop, hr, List.drop_left]
  have he : (s.extract k (k + u)).data.toList = (s.data.toList.drop k).take u := by
    rw [← Lib.toList_data, ext_list]
  unfold flat
  rw [hsz, he, hr, List.append_assoc, hd, ← List.drop_drop, hd, List.take_append_drop]
/-- What is got of bytes is put as they stand. -/
theorem getJ_back {s : ByteArray} {p : Int} {x : Jb} {q : Int} (h : getJ s p = some (x, q)) :
    checkJ x = 0 ∧ FairJ x ∧ ∃ a b : Nat, p = (a : Int) ∧ q = (b : Int) ∧ a ≤ b ∧ b ≤ s.data.toList.length ∧ s.data.toList.drop a = (putJ x).data.toList ++ s.data.toList.drop b := by
  unfold getJ at h
  split at h
  · cases h
  rename_i y hf
  split at h
  · rename_i hc
    injection h with h
    subst h
    dsimp only at hc
    refine ⟨hc, (fields_parts hf).1, ?_⟩
    unfold fieldsJ at hf
    split at hf
    · cases hf
    rename_i a n ht
    split at hf
    · rename_i h4
      split at hf
      · rename_i h3
        split at hf
        · cases hf
        · rename_i ls z hg
          injection hf with hf
          injection hf with h1 h2
          subst h2
          obtain ⟨P, rfl, t1, t2, t3⟩ := text_back (m := 98) ht
          rw [Bool.and_eq_true, Bool.and_eq_true, Bool.and_eq_true] at h4
          obtain ⟨R, r1, r2, r3, r4⟩ := chain_back t2 4 (fun k hk => by
            have : k = 0 ∨ k = 1 ∨ k = 2 ∨ k = 3 := by omega
            rcases this with rfl | rfl | rfl | rfl
            · exact h4.1
            · exact h4.2.1
            · exact h4.2.2.1
            · exact h4.2.2.2)
          rw [r1] at h3 hg h1
          rw [Bool.and_eq_true, Bool.and_eq_true] at h3
          obtain ⟨S, u1, u2, u3, u4⟩ := chain_back r3 3 (fun k hk => by
            have hgd : ∀ j, good (valN s.data.toList (R : Int)) (okAt s.data.toList (R : Int)) j = true → okAt s.data.toList (R : Int) j = true := fun j hj => by
              unfold good at hj
              rw [Bool.and_eq_true] at hj
              exact hj.1
            have : k = 0 ∨ k = 1 ∨ k = 2 := by omega
            rcases this with rfl | rfl | rfl
            · exact hgd 0 h3.1
            · exact hgd 1 h3.2.1
            · exact hgd 2 h3.2.2)
          rw [u1] at hg
          obtain ⟨_, A, B, e1, e2, e3, e4, e5⟩ := Sel.get_back hg
          obtain rfl : S = A := by omega
          refine ⟨P, B, rfl, e2, by omega, by rw [size_list]; exact e4, ?_⟩
          have hS : s.data.toList.drop S = (putS ls).data.toList ++ s.data.toList.drop B := by
            rw [e5, ← Lib.toList_data (s.extract S B)]
            have : B = S + (B - S) := by omega
            rw [this, ext_list, ← List.drop_drop, List.take_append_drop]
          have hx : terms x = ls := by rw [← h1]; rfl
          have hpa : path x = s.extract a n := by rw [← h1]; rfl
          have hd4 : putV (am (dem x)) 4 = putV (valN s.data.toList (n : Int)) 4 := putV_congr 4 (fun k hk => by
            rw [← h1]
            rcases lt4 hk with rfl | rfl | rfl | rfl <;> rfl)
          have hn3 : putV (numJ x) 3 = putV (valN s.data.toList (R : Int)) 3 := putV_congr 3 (fun k hk => by
            rw [← h1]
            have : k = 0 ∨ k = 1 ∨ k = 2 := by omega
            rcases this with rfl | rfl | rfl <;> exact Int.toNat_natCast _)
          rw [putJ_list hc, hx, hpa, hd4, hn3, t3, r4, u4, hS, List.append_assoc, List.append_assoc, List.append_assoc]
      · cases hf
    · cases hf
  · cases h
/-- Of what is put of a job no beginning is got. -/
theorem getJ_torn {x : Jb} {s : ByteArray} {r : List UInt8} (hx : checkJ x = 0) (hf : FairJ x) (h : (putJ x).data.toList = s.data.toList ++ r) (hr : r ≠ []) : getJ s 0 = none := by
  cases hg : getJ s 0 with
  | none => rfl
  | some y =>
    exfalso
    obtain ⟨y, q⟩ := y
    obtain ⟨hy, fy, a, b, h1, h2, h3, h4, h5⟩ := getJ_back hg
    obtain rfl : a = 0 := by omega
    rw [List.drop_zero] at h5
    have g1 := getJ_put (s := putJ x) (p := 0) (r := []) hx hf (by simp)
    have g2 := getJ_put (s := putJ x) (p := 0) (r := s.data.toList.drop b ++ r) hy fy (by rw [List.drop_zero, h, ← List.append_assoc, ← h5])
    rw [g1] at g2
    simp only [Option.some.injEq, Prod.mk.injEq] at g2
    have l1 := congrArg List.length h
    have l2 := congrArg List.length h5
    rw [List.length_append] at l1 l2
    rw [size_list] at l1 l2
    have l3 : 0 < r.length := List.length_pos_iff.2 hr
    rw [size_list] at l1 l2
    omega
theorem getJ_end (s : ByteArray) : getJ s (s.size : Int) = none := by
  unfold getJ fieldsJ Wire.textV
  rw [getV_out (.inr (by rw [size_list]; exact Int.le_refl _))]
end Go.Proofs.YtbilkeadhflibaaGreatDoor.Job

/- From what the rows list to what the walks ask: the library's table of powers, its two errors and the package's own are there. -/
namespace Go.Proofs.YtbilkeadhflibaaGreatDoor.Job
open Go.RowKit

def laidL : List (String × DataW Unit) := [("math/bits.deBruijn32tab", Rows.laid_math_bits_deBruijn32tab), ("math/bits.deBruijn64tab", Rows.laid_math_bits_deBruijn64tab), ("internal/strconv.uint64pow10", Rows.laid_internal_strconv_uint64pow10), ("unicode/utf8.acceptRanges", Rows.laid_unicode_utf8_acceptRanges), ("strconv.ErrRange", Rows.laid_strconv_ErrRange), ("strconv.ErrSyntax", Rows.laid_strconv_ErrSyntax), ("demesne/sel.errWrong", Rows.laid_demesne_sel_errWrong), ("unicode/utf8.first", Rows.laid_unicode_utf8_first)]
theorem tabType : (Tryz.prog.globals[1]?).map (·.type) = some 194 := by kernel_rfl
theorem tabCells : Tryz.prog.cellsOf 194 = 20 := by kernel_rfl
theorem oneCell : Tryz.prog.cellsOf 22 = 1 := by kernel_rfl
theorem tab_data : (Rows.laid_internal_strconv_uint64pow10 : DataW Unit) = Lib.tabData .u64 Lib.pow10Tab := rfl
theorem errIface : ∃ ms, Tryz.prog.underlying 139 = some (.interface ms) := ⟨_, Tryz.underlying139⟩
theorem sentry_of {W : World} {n : String} {g : Nat} {nm : String} {d : DataW Unit} (hn : Tryz.prog.globalNamed n = some g) (ht : (Tryz.prog.globals[g]?).map (·.type) = some 139) (h : Lib.VarReads Tryz.prog W n (.iface nm d)) : Sentry g W := by
  obtain ⟨g', t', cs, fuel, p, h1, h2, h3, h4⟩ := h
  obtain rfl := Option.some.inj (hn.symm.trans h1)
  obtain rfl := Option.some.inj (ht.symm.trans h2)
  obtain ⟨ms, hi⟩ := errIface
  obtain ⟨f1, u, v, hcs, _⟩ := iface_of_trod hi h4
  have hc := World.var?_cell hn h3 0
  rw [← Array.getElem?_toList, hcs] at hc
  exact ⟨u, v, hc⟩
theorem roots_of {W : World} (h : laidMet Tryz.prog laidL W) : Roots W := by
  have h2 := Lib.laidMet.reads h (n := "internal/strconv.uint64pow10") (d := Rows.laid_internal_strconv_uint64pow10) (by simp [laidL])
  have h4 := Lib.laidMet.reads h (n := "strconv.ErrRange") (d := Rows.laid_strconv_ErrRange) (by simp [laidL])
  have h5 := Lib.laidMet.reads h (n := "strconv.ErrSyntax") (d := Rows.laid_strconv_ErrSyntax) (by simp [laidL])
  have h6 := Lib.laidMet.reads h (n := "demesne/sel.errWrong") (d := Rows.laid_demesne_sel_errWrong) (by simp [laidL])
  refine ⟨?_, sentry_of (by kernel_rfl) (by kernel_rfl) h5, sentry_of (by kernel_rfl) (by kernel_rfl) h4, sentry_of (by kernel_rfl) (by kernel_rfl) h6⟩
  obtain ⟨g', t', cs, fuel, p, k1, k2, k3, k4⟩ := h2
  obtain rfl := Option.some.inj (tabNamed.symm.trans k1)
  obtain rfl := Option.some.inj (tabType.symm.trans k2)
  rw [tab_data] at k4
  have e := Lib.cells_of_tab Tryz.underlying194 Tryz.underlying22 oneCell tabCells k4
  unfold Tab Lib.TabIs
  rw [k3, ← e]
theorem laid_plain : (laidL.all fun x => x.2.handleName?.isNone) = true := by kernel_rfl
theorem roots_met {W : World} (h : laidMetH Tryz.prog laidL W) : Roots W := by
  rw [MakeChecks.laidMetH_plain _ _ _ laid_plain] at h
  exact roots_of h
end Go.Proofs.YtbilkeadhflibaaGreatDoor.Job

/- The last step of every law here: a call that answers true, and behind which all that was there is as it was, meets the law's row. -/
namespace Go.Proofs.YtbilkeadhflibaaGreatDoor.Ends
open Go.ChangeShapes Go.WideShapes Go.ChangeAt Go.RowKit

theorem own : ownKnob Tryz.prog.godebug = none := by kernel_rfl
theorem laidOut : laidOutB Tryz.prog = true := by kernel_rfl

variable {H : Type} {enc : TypeId × Value → H} {P : Program}

/-- What was read before the call is read behind it, argument by argument. -/
theorem args_stay (hl : laidOutB P = true) {W W' : World} (hb : Below W.heap.size W W') :
    ∀ (ts : List TypeId) (vs : List Value) (ds : List (DataW H)) (ps : List MemPlace), (∀ t ∈ ts, P.readableRec t = true ∧ t < P.types.size) → (∀ x ∈ ps, x.block < W.heap.size) →
      DataW.TrodAll enc P W 0 (fun _ => true) true ts vs ds ps → DataW.TrodAll enc P W' 0 (fun b => decide (b < W.heap.size)) true ts vs ds ps
  | [], [], [], _, _, _, h => h
  | t :: ts, v :: vs, d :: ds, ps, hr, hlt, h => by
    obtain ⟨p, q, h1, h2, rfl⟩ := h
    have ht := hr t (List.mem_cons_self ..)
    exact ⟨p, q, Below.trod hl ht.1 ht.2 h1 hb fun x hx => hlt x (List.mem_append_left _ hx),
      args_stay hl hb ts vs ds q (fun u hu => hr u (List.mem_cons_of_mem _ hu)) (fun x hx => hlt x (List.mem_append_right _ hx)) h2, rfl⟩
  | [], _ :: _, _, _, _, _, h => h.elim
  | [], [], _ :: _, _, _, _, h => h.elim
  | _ :: _, [], _, _, _, _, h => h.elim
  | _ :: _, _ :: _, [], _, _, _, h => h.elim

/-- A law's row at its end. -/
theorem law_end {f : Func} {s : ChangeSpec} {W W' : World} {args : Array Value} {ds gs : List (DataW H)} {before : List MemPlace} {t : TypeId}
    (hl : laidOutB P = true) (hr : ∀ t ∈ f.params.toList, P.readableRec t = true ∧ t < P.types.size) (hs : s.vars = []) (hf : f.resultTypes = #[t]) (ht : P.underlying t = some .bool)
    (hW : DataW.Whole enc P f.params.toList s.vars false W args.toList ds gs before) (hfn : s.fn H (ds ++ gs) = { results := [.lit (.bool true)], args := ds }) (hb : Below W.heap.size W W') :
    s.post enc P f false true false false W args (.bool true) W' := by
  have hW0 := hW
  have hlt : ∀ x ∈ before, x.block < W.heap.size := fun x hx => hW0.lt x hx
  obtain ⟨p, q, hA, hV, rfl, _, _⟩ := hW
  rw [hs] at hV
  obtain ⟨rfl, rfl⟩ := trodVars_none hV
  rw [List.append_nil] at hW0 hlt
  refine ⟨ds, [], p, [], p, [], hW0, ?_, ?_, ?_, ?_, fun h => by cases h⟩
  · rw [hfn, hf]
    exact trodAll_cons_mk (shut_bool ht true) trodAll_mk0
  · rw [hfn]
    exact args_stay hl hb _ _ _ _ hr hlt hA
  · rw [hfn, hs]
    rfl
  · exact World.keptBut_mono (fun x hx => ⟨hx, Or.inr (Or.inl hx)⟩) (hb.frame (· ∈ p))
end Go.Proofs.YtbilkeadhflibaaGreatDoor.Ends
