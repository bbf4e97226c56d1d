/- What mac.Get answers of every text and place; of memory that was there nothing turns. -/
import Derived.Test.YthopegokjbibmaaDoorMPut
import Derived.Test.YthopegokjbibmaaDoorMConcat
import Derived.Test.YthopegokjbibmaaDoorMForm
namespace Go.Proofs.YthopegokjbibmaaDoor.Mac
open Go.RowKit Go.Proofs.YthopegokjbibmaaDoor.Sha
open Go.Proofs.YthopegokjbibmaaDoor.Boxes (set3 set3_box set3_below cells3 keep)

theorem conv_back (k : Nat) (hk : k ≤ 2) (w : World) : (convert 25 3 (.int .u64 (k : Int))).run Tryd.prog w = .ok (.int .i64 (k : Int)) w := by
  obtain rfl | rfl | rfl : k = 0 ∨ k = 1 ∨ k = 2 := by omega
  all_goals kernel_rfl
/-- What getCaveat tells. -/
def TellsC (r : Option (Cav × Nat)) (w : World) (e : Ending) (w' : World) : Prop :=
  e = .returned (match r with
    | some x => .tuple #[val x.1, .int .i64 (x.2 : Int), .bool true]
    | none => .tuple #[val (0, 0), .int .i64 0, .bool false]) ∧ Below w.heap.size w w'
set_option maxHeartbeats 2000000 in
set_option maxRecDepth 100000 in
theorem getCaveat_any (s : ByteArray) (hs : s.size ≤ 9223372036854775807) (p : Nat) (w : World) :
    Calls Tryd.prog 50 #[.string s, .int .i64 (p : Int)] w (TellsC (getC s.data.toList p) w) := by
  have hb0 : Below w.heap.size w (w.alloc (.cells #[.int .i64 0, .int .u64 0] 27)) := (Below.refl _ _).alloc (Nat.le_refl _) _
  have hh0 := heap_alloc_new w (.cells #[.int .i64 0, .int .u64 0] 27)
  obtain ⟨r, hr⟩ : ∃ r, Wire.getV s.data.toList p = r := ⟨_, rfl⟩
  cases r with
  | none =>
    have HG := Lib.hid (Wire.get_no s hs p hr)
    have HE : Hid (getC s.data.toList p = none) := Lib.hid (by unfold getC; rw [hr])
    clear hr
    go_enter Tryd.func50, Tryd.ntmps50
    go_wp2_with fail
    with_reducible refine (HG.out _).mono ?_
    rintro e w1 ⟨rfl, b1⟩
    have hh1 := keep hh0 b1
    have hb1 := hb0.trans (b1.mono hb0.size)
    obtain ⟨c0, c1, f0, f1⟩ := cells2 hh1
    have hres := set2_box hh1 (.int .i64 0) (.int .u64 0)
    have hbl := set2_below (a := .int .i64 0) (b := .int .u64 0) hb1 (Nat.le_refl _)
    unfold set2 at hres hbl
    obtain ⟨e0, e1, _⟩ := cells2 hres
    clear hres hh1 hb1 b1 hb0 hh0
    go_wp2
    refine bodyPost_ret (v := .tuple #[.agg #[.int .i64 0, .int .u64 0], .int .i64 0, .bool false]) (by simp [results, Tryd.results50, go_sem, e0, e1]) rfl ?_
    rw [HE.out]
    exact ⟨rfl, hbl⟩
  | some x =>
    obtain ⟨k, q⟩ := x
    have hgl := Wire.getV_lt hr
    have hk64 : (k : Int) ≤ 18446744073709551615 := by omega
    have hq : q ≤ s.size := by rw [← size_list]; exact hgl.2.2.1
    have HG := Lib.hid (Wire.get_yes s hs p k q hr)
    by_cases hk : 2 < k
    · have hkz : (2 : Int) < (k : Int) := by omega
      have HE : Hid (getC s.data.toList p = none) := Lib.hid (by unfold getC; rw [hr]; simp only [if_pos hk])
      clear hr hgl
      go_enter Tryd.func50, Tryd.ntmps50
      go_wp2_with fail
      with_reducible refine (HG.out _).mono ?_
      rintro e w1 ⟨rfl, b1⟩
      have hh1 := keep hh0 b1
      have hb1 := hb0.trans (b1.mono hb0.size)
      obtain ⟨c0, c1, f0, f1⟩ := cells2 hh1
      have hres := set2_box hh1 (.int .i64 0) (.int .u64 0)
      have hbl := set2_below (a := .int .i64 0) (b := .int .u64 0) hb1 (Nat.le_refl _)
      unfold set2 at hres hbl
      obtain ⟨e0, e1, _⟩ := cells2 hres
      clear hres hh1 hb1 b1 hb0 hh0
      go_wp2
      refine bodyPost_ret (v := .tuple #[.agg #[.int .i64 0, .int .u64 0], .int .i64 0, .bool false]) (by simp [results, Tryd.results50, go_sem, e0, e1]) rfl ?_
      rw [HE.out]
      exact ⟨rfl, hbl⟩
    · have hkz : ¬ (2 : Int) < (k : Int) := by omega
      obtain ⟨r2, hr2⟩ : ∃ r, Wire.getV s.data.toList q = r := ⟨_, rfl⟩
      cases r2 with
      | none =>
        have HG2 := Lib.hid (Wire.get_no s hs q hr2)
        have HE : Hid (getC s.data.toList p = none) := Lib.hid (by unfold getC; rw [hr]; simp only [if_neg hk, hr2])
        clear hr hgl hr2
        go_enter Tryd.func50, Tryd.ntmps50
        go_wp2_with fail
        with_reducible refine (HG.out _).mono ?_
        rintro e w1 ⟨rfl, b1⟩
        go_wp2_with fail
        with_reducible refine (HG2.out _).mono ?_
        rintro e w2 ⟨rfl, b2⟩
        have hh1 := keep (keep hh0 b1) b2
        have hb1 := (hb0.trans (b1.mono hb0.size))
        have hb2 := hb1.trans (b2.mono hb1.size)
        obtain ⟨c0, c1, f0, f1⟩ := cells2 hh1
        have hres := set2_box hh1 (.int .i64 0) (.int .u64 0)
        have hbl := set2_below (a := .int .i64 0) (b := .int .u64 0) hb2 (Nat.le_refl _)
        unfold set2 at hres hbl
        obtain ⟨e0, e1, _⟩ := cells2 hres
        clear hres hh1 hb1 b1 hb0 hh0 hb2 b2
        go_wp2
        refine bodyPost_ret (v := .tuple #[.agg #[.int .i64 0, .int .u64 0], .int .i64 0, .bool false]) (by simp [results, Tryd.results50, go_sem, e0, e1]) rfl ?_
        rw [HE.out]
        exact ⟨rfl, hbl⟩
      | some y =>
        obtain ⟨n, q2⟩ := y
        have hgl2 := Wire.getV_lt hr2
        have HG2 := Lib.hid (Wire.get_yes s hs q n q2 hr2)
        have HE : Hid (getC s.data.toList p = some (((k : Int), n), q2)) := Lib.hid (by unfold getC; rw [hr]; simp only [if_neg hk, hr2])
        have hcv := conv_back k (by omega)
        clear hr hgl hr2 hgl2
        go_enter Tryd.func50, Tryd.ntmps50
        go_wp2_with fail
        with_reducible refine (HG.out _).mono ?_
        rintro e w1 ⟨rfl, b1⟩
        go_wp2_with fail
        with_reducible refine (HG2.out _).mono ?_
        rintro e w2 ⟨rfl, b2⟩
        have hh1 := keep (keep hh0 b1) b2
        have hb1 := (hb0.trans (b1.mono hb0.size))
        have hb2 := hb1.trans (b2.mono hb1.size)
        obtain ⟨c0, c1, f0, f1⟩ := cells2 hh1
        have hres := set2_box hh1 (.int .i64 (k : Int)) (.int .u64 (n : Int))
        have hbl := set2_below (a := .int .i64 (k : Int)) (b := .int .u64 (n : Int)) hb2 (Nat.le_refl _)
        unfold set2 at hres hbl
        obtain ⟨e0, e1, _⟩ := cells2 hres
        clear hres hh1 hb1 b1 hb0 hh0 hb2 b2
        go_wp2
        refine bodyPost_ret (v := .tuple #[.agg #[.int .i64 (k : Int), .int .u64 (n : Int)], .int .i64 (q2 : Int), .bool true]) (by simp [results, Tryd.results50, go_sem, e0, e1]) rfl ?_
        rw [HE.out]
        exact ⟨rfl, hbl⟩

theorem new_two (w : World) (x y : Value) : ∀ j u, [x, y][j]? = some u → (w.alloc (.cells #[x, y] 27)).cell? ((⟨w.heap.size, 0, none⟩ : Addr).add j) = some u := by
  intro j u hj
  have h : (w.alloc (.cells #[x, y] 27)).heap[w.heap.size]? = some (.cells #[x, y] 27) := heap_alloc_new _ _
  rw [Addr.add_lit]
  match j with
  | 0 => simp at hj; subst hj; simp only [World.cell?, h]; rfl
  | 1 => simp at hj; subst hj; simp only [World.cell?, h]; rfl
  | (n + 2) => simp at hj
theorem Mine.snoc {w : World} {B n : Nat} {v : Value} {ls : List Cav} {x : Cav} (h : w.ownsRow B 27 2 v (n + 1) (ls.flatMap enc ++ [.int .i64 x.1, .int .u64 (x.2 : Int)])) (hn : n = ls.length) : Mine w B v (ls ++ [x]) := by
  subst hn
  unfold Mine
  rw [List.length_append, List.flatMap_append]
  simpa [enc] using h
/-- What getCaveats tells. -/
def TellsCs (r : Option (List Cav × Nat)) (w : World) (e : Ending) (w' : World) : Prop :=
  (match r with
    | some x => ∃ v, e = .returned (.tuple #[v, .int .i64 (x.2 : Int), .bool true]) ∧ Mine w' w.heap.size v x.1
    | none => e = .returned (.tuple #[.slice none 0 0, .int .i64 0, .bool false])) ∧ Below w.heap.size w w'
set_option maxHeartbeats 2000000 in
set_option maxRecDepth 100000 in
theorem getCaveats_any (s : ByteArray) (hs : s.size ≤ 9223372036854775807) (p : Nat) (w : World) :
    Calls Tryd.prog 30 #[.string s, .int .i64 (p : Int)] w (TellsCs (getCs s.data.toList p) w) := by
  obtain ⟨r, hr⟩ : ∃ r, Wire.getV s.data.toList p = r := ⟨_, rfl⟩
  cases r with
  | none =>
    have HG := Lib.hid (Wire.get_no s hs p hr)
    have HE : Hid (getCs s.data.toList p = none) := Lib.hid (by unfold getCs; rw [hr])
    clear hr
    go_enter Tryd.func30, Tryd.ntmps30
    go_wp2_with fail
    with_reducible refine (HG.out _).mono ?_
    rintro e w1 ⟨rfl, b1⟩
    go_wp2
    go_ret3
    rw [HE.out]
    exact ⟨rfl, b1⟩
  | some x =>
    obtain ⟨n, q⟩ := x
    have hgl := Wire.getV_lt hr
    have hn64 : (n : Int) ≤ 18446744073709551615 := by omega
    have HG := Lib.hid (Wire.get_yes s hs p n q hr)
    by_cases h8 : 8 < n
    · have h8z : (8 : Int) < (n : Int) := by omega
      have HE : Hid (getCs s.data.toList p = none) := Lib.hid (by unfold getCs; rw [hr]; simp only [if_pos h8])
      clear hr hgl
      go_enter Tryd.func30, Tryd.ntmps30
      go_wp2_with fail
      with_reducible refine (HG.out _).mono ?_
      rintro e w1 ⟨rfl, b1⟩
      go_wp2
      go_ret3
      rw [HE.out]
      exact ⟨rfl, b1⟩
    · have h8z : ¬ (8 : Int) < (n : Int) := by omega
      have HE : Hid (getCs s.data.toList p = getN s.data.toList n q) := Lib.hid (by unfold getCs; rw [hr]; simp only [if_neg h8])
      have HQ := Lib.hid hgl.2.2.1
      clear hr hgl
      obtain ⟨i0, hi, hz0, hz1, hz2⟩ := info_parts infoC
      go_enter Tryd.func30, Tryd.ntmps30
      go_wp2_with fail
      with_reducible refine (HG.out _).mono ?_
      rintro e w1 ⟨rfl, b1⟩
      go_wp2
      go_loopw [4, 5, 23] (fun v z i wr => ∃ (k m : Nat) (ls : List Cav), k ≤ n ∧ i = .int .u64 k ∧ z = .int .i64 (m : Int) ∧ getN s.data.toList k q = some (ls, m) ∧ Mine wr w.heap.size v ls ∧ Below w.heap.size w wr) (fun _ _ i _ => n - (intOf i).toNat)
      case atStart => exact ⟨0, q, [], Nat.zero_le _, rfl, rfl, rfl, World.ownsRow_nil _ _ _ _, b1⟩
      case round =>
        obtain ⟨k, m, ls, hk, rfl, rfl, hN, hown, hb⟩ := hrel
        have hll : ls.length = k := (getN_lt HQ.out hN).2.1
        have HN := Lib.hid hN
        have HO := Lib.hid hown
        clear hN hown
        by_cases hlt : k < n
        · have hltz : (k : Int) < (n : Int) := by omega
          have hbA : Below w.heap.size w (wr.alloc (.cells #[.int .i64 0, .int .u64 0] 27)) := hb.alloc hb.size _
          have hhA := heap_alloc_new wr (.cells #[.int .i64 0, .int .u64 0] 27)
          have HC := Lib.hid (getCaveat_any s hs m (wr.alloc (.cells #[.int .i64 0, .int .u64 0] 27)))
          obtain ⟨r, hr⟩ : ∃ r, getC s.data.toList m = r := ⟨_, rfl⟩
          rw [hr] at HC
          cases r with
          | none =>
            have hnx : getN s.data.toList (k + 1) q = none := by rw [getN_snoc HN.out, hr]
            have HE2 : Hid (getCs s.data.toList p = none) := Lib.hid (by
              rw [HE.out]
              have := getN_none (n - (k + 1)) hnx
              rwa [show k + 1 + (n - (k + 1)) = n by omega] at this)
            clear hr hnx
            unfold TellsC val at HC
            go_wp2_with fail
            with_reducible refine HC.out.mono ?_
            rintro e w2 ⟨rfl, b2⟩
            have hh2 := keep hhA b2
            have hb2 := hbA.trans (b2.mono hbA.size)
            obtain ⟨c0, c1, f0, f1⟩ := cells2 hh2
            have hbl := set2_below (T := wr.heap.size) (a := .int .i64 0) (b := .int .u64 0) hb2 hb.size
            unfold set2 at hbl
            clear hh2 hb2 b2 hbA hhA HC
            go_wp2
            go_ret3
            rw [HE2.out]
            exact ⟨rfl, hbl⟩
          | some x =>
            obtain ⟨⟨x1, x2⟩, m2⟩ := x
            have HNx : Hid (getN s.data.toList (k + 1) q = some (ls ++ [(x1, x2)], m2)) := Lib.hid (by rw [getN_snoc HN.out, hr])
            clear hr
            unfold TellsC val at HC
            go_wp2_with fail
            with_reducible refine HC.out.mono ?_
            rintro e w2 ⟨rfl, b2⟩
            have hh2 := keep hhA b2
            have hb2 := hbA.trans (b2.mono hbA.size)
            obtain ⟨c0, c1, f0, f1⟩ := cells2 hh2
            have hbl := set2_below (T := wr.heap.size) (a := .int .i64 x1) (b := .int .u64 (x2 : Int)) hb2 hb.size
            have hbx := set2_box hh2 (.int .i64 x1) (.int .u64 (x2 : Int))
            unfold set2 at hbl hbx
            obtain ⟨d0, d1, _⟩ := cells2 hbx
            have hown3 : Mine ((w2.setCell ⟨wr.heap.size, 0, none⟩ (.int .i64 x1)).setCell ⟨wr.heap.size, 1, none⟩ (.int .u64 (x2 : Int))) w.heap.size u4 ls := by
              refine ⟨HO.out.1, ?_⟩
              rcases HO.out.2 with hn | ⟨g, cap, cur, hv, hB, hg, rest⟩
              · exact .inl hn
              · have hgl := (Array.getElem?_eq_some_iff.1 hg).1
                refine .inr ⟨g, cap, cur, hv, hB, ?_, rest⟩
                rw [Below.heap_setCell _ _ _ _ (by simp only; omega), Below.heap_setCell _ _ _ _ (by simp only; omega), b2.block g (by simp; omega), heap_alloc_old _ _ hgl]
                exact hg
            have HO3 := Lib.hid hown3
            have HSZ : Hid (((w2.setCell ⟨wr.heap.size, 0, none⟩ (.int .i64 x1)).setCell ⟨wr.heap.size, 1, none⟩ (.int .u64 (x2 : Int))).heap.size = w2.heap.size) := Lib.hid (by simp [World.setCell])
            have HLt : Hid (ls.length = k) := Lib.hid hll
            clear hh2 hb2 b2 hbA hhA HC hown3 hbx hll
            go_wp2_with (at_builtin; refine wpList_append_own _ rfl _ _ 22 rfl w.heap.size 27 i0 (.agg #[.int .i64 0, .int .u64 0]) 2 16 Tryd.underlying22 hi hz0 hz1 hz2 rfl (by decide) _ _ _ rfl (World.ownsRow.alloc HO3.out _) ⟨w2.heap.size, 0, none⟩ 1 1 [.int .i64 x1, .int .u64 (x2 : Int)] rfl rfl ?c1 ?c2 ?c3 ?c4 ?c5 ?_)
            case c1 => rw [← HSZ.out]; exact new_two _ _ _
            case c2 => intro u hu; simp at hu; rcases hu with rfl | rfl <;> rfl
            case c3 => have := HLt.out; unfold maxLen; omega
            case c4 => have := HLt.out; omega
            case c5 => have := hbl.size; rw [World.size_alloc]; omega
            intro v' w4 hown' hgrow _
            have HO4 : Hid (Mine w4 w.heap.size v' (ls ++ [(x1, x2)])) := Lib.hid (Mine.snoc (x := (x1, x2)) hown' rfl)
            have hb4 : Below w.heap.size w w4 := (hbl.alloc hbl.size _).grown hgrow (by have := hbl.size; simp at this ⊢; omega) (fun k hk => (World.ownsRow.lt HO3.out k hk).1)
            clear hown' hgrow d0 d1 c0 c1 f0 f1
            go_wp2
            go_roundw
            case rel => exact ⟨k + 1, m2, ls ++ [(x1, x2)], by omega, by go_num, rfl, HNx.out, HO4.out, hb4⟩
            case measure => simp [intOf]; omega
        · have hltz : ¬ (k : Int) < (n : Int) := by omega
          obtain rfl : k = n := by omega
          go_wp2
          go_ret3
          rw [HE.out, HN.out]
          exact ⟨⟨u4, rfl, HO.out⟩, hb⟩

/-- What Get tells. -/
def TellsT (s : ByteArray) (r : Option ((Nat × Nat) × List Cav × Nat)) (w : World) (e : Ending) (w' : World) : Prop :=
  (match r with
    | some x => ∃ v, e = .returned (.tuple #[.agg #[.string (s.extract x.1.1 x.1.2), v, .string (s.extract x.2.2 (x.2.2 + 32))], .int .i64 ((x.2.2 + 32 : Nat) : Int), .bool true]) ∧ Mine w' w.heap.size v x.2.1
    | none => e = .returned (.tuple #[.agg #[.string ⟨#[]⟩, .slice none 0 0, .string ⟨#[]⟩], .int .i64 0, .bool false])) ∧ Below w.heap.size w w'
theorem extract_list (s : ByteArray) (a b : Nat) : (s.extract a b).data.toList = (s.data.toList.drop a).take (b - a) := by
  rw [Lib.extract_data]
set_option maxHeartbeats 4000000 in
set_option maxRecDepth 100000 in
theorem get_any (s : ByteArray) (hs : s.size ≤ 9223372036854775000) (p : Int) (w : World) :
    Calls Tryd.prog 13 #[.string s, .int .i64 p] w (TellsT s (getT s.data.toList p) w) := by
  have hb0 : Below w.heap.size w (w.alloc (.cells #[.string ⟨#[]⟩, .slice none 0 0, .string ⟨#[]⟩] 24)) := (Below.refl _ _).alloc (Nat.le_refl _) _
  have hh0 := heap_alloc_new w (.cells #[.string ⟨#[]⟩, .slice none 0 0, .string ⟨#[]⟩] 24)
  obtain ⟨r, hr⟩ : ∃ r, Wire.textV s.data.toList p 32 = r := ⟨_, rfl⟩
  cases r with
  | none =>
    have HG := Lib.hid (Wire.text_no s (by omega) p 32 (by omega) hr)
    have HE : Hid (getT s.data.toList p = none) := Lib.hid (by unfold getT; rw [hr])
    clear hr
    go_enter Tryd.func13, Tryd.ntmps13
    go_wp2_with fail
    with_reducible refine (HG.out _).mono ?_
    rintro e w1 ⟨rfl, b1⟩
    have hh1 := keep hh0 b1
    have hb1 := hb0.trans (b1.mono hb0.size)
    obtain ⟨c0, c1, c2, f0, f1, f2⟩ := cells3 hh1
    have hres := set3_box hh1 (.string ⟨#[]⟩) (.slice none 0 0) (.string ⟨#[]⟩)
    have hbl := set3_below (a := .string ⟨#[]⟩) (b := .slice none 0 0) (c := .string ⟨#[]⟩) hb1 (Nat.le_refl _)
    unfold set3 at hres hbl
    obtain ⟨e0, e1, e2, _⟩ := cells3 hres
    clear hres hh1 hb1 b1 hb0 hh0
    go_wp2
    refine bodyPost_ret (v := .tuple #[.agg #[.string ⟨#[]⟩, .slice none 0 0, .string ⟨#[]⟩], .int .i64 0, .bool false]) (by simp [results, Tryd.results13, go_sem, e0, e1, e2]) rfl ?_
    rw [HE.out]
    exact ⟨rfl, hbl⟩
  | some x =>
    obtain ⟨a, b⟩ := x
    obtain ⟨hab, hbs, hab2⟩ := textV_lt hr
    rw [size_list] at hbs
    have HG := Lib.hid (Wire.text_yes s (by omega) p 32 (by omega) a b hr)
    have HC := Lib.hid (getCaveats_any s (by omega) b)
    obtain ⟨r2, hr2⟩ : ∃ r, getCs s.data.toList b = r := ⟨_, rfl⟩
    rw [hr2] at HC
    cases r2 with
    | none =>
      have HE : Hid (getT s.data.toList p = none) := Lib.hid (by unfold getT; rw [hr]; simp only [hr2])
      clear hr hr2
      unfold TellsCs at HC
      go_enter Tryd.func13, Tryd.ntmps13
      go_wp2_with fail
      with_reducible refine (HG.out _).mono ?_
      rintro e w1 ⟨rfl, b1⟩
      go_wp2_with fail
      with_reducible refine (HC.out _).mono ?_
      rintro e w2 ⟨rfl, b2⟩
      have hh1 := keep (keep hh0 b1) b2
      have hb1' := hb0.trans (b1.mono hb0.size)
      have hb1 := hb1'.trans (b2.mono hb1'.size)
      obtain ⟨c0, c1, c2, f0, f1, f2⟩ := cells3 hh1
      have hres := set3_box hh1 (.string ⟨#[]⟩) (.slice none 0 0) (.string ⟨#[]⟩)
      have hbl := set3_below (a := .string ⟨#[]⟩) (b := .slice none 0 0) (c := .string ⟨#[]⟩) hb1 (Nat.le_refl _)
      unfold set3 at hres hbl
      obtain ⟨e0, e1, e2, _⟩ := cells3 hres
      clear hres hh1 hb1 b1 hb0 hh0 hb1' b2
      go_wp2
      refine bodyPost_ret (v := .tuple #[.agg #[.string ⟨#[]⟩, .slice none 0 0, .string ⟨#[]⟩], .int .i64 0, .bool false]) (by simp [results, Tryd.results13, go_sem, e0, e1, e2]) rfl ?_
      rw [HE.out]
      exact ⟨rfl, hbl⟩
    | some y =>
      obtain ⟨cs, q⟩ := y
      obtain ⟨hfair, h8, _, hqs⟩ := getCs_lt hr2
      rw [size_list] at hqs
      have HFair := Lib.hid hfair
      by_cases hend : s.size < q + 32
      · have hez : (s.size : Int) - (q : Int) < 32 := by omega
        have HE : Hid (getT s.data.toList p = none) := Lib.hid (by unfold getT; rw [hr]; simp only [hr2]; rw [if_pos (by rw [size_list]; exact hend)])
        clear hr hr2 hfair
        unfold TellsCs at HC
        go_enter Tryd.func13, Tryd.ntmps13
        go_wp2_with fail
        with_reducible refine (HG.out _).mono ?_
        rintro e w1 ⟨rfl, b1⟩
        go_wp2_with fail
        with_reducible refine (HC.out _).mono ?_
        rintro e w2 ⟨⟨v, rfl, _⟩, b2⟩
        have hh1 := keep (keep hh0 b1) b2
        have hb1' := hb0.trans (b1.mono hb0.size)
        have hb1 := hb1'.trans (b2.mono hb1'.size)
        obtain ⟨c0, c1, c2, f0, f1, f2⟩ := cells3 hh1
        have hres := set3_box hh1 (.string ⟨#[]⟩) (.slice none 0 0) (.string ⟨#[]⟩)
        have hbl := set3_below (a := .string ⟨#[]⟩) (b := .slice none 0 0) (c := .string ⟨#[]⟩) hb1 (Nat.le_refl _)
        unfold set3 at hres hbl
        obtain ⟨e0, e1, e2, _⟩ := cells3 hres
        clear hres hh1 hb1 b1 hb0 hh0 hb1' b2
        go_wp2
        refine bodyPost_ret (v := .tuple #[.agg #[.string ⟨#[]⟩, .slice none 0 0, .string ⟨#[]⟩], .int .i64 0, .bool false]) (by simp [results, Tryd.results13, go_sem, e0, e1, e2]) rfl ?_
        rw [HE.out]
        exact ⟨rfl, hbl⟩
      · have hez : ¬ (s.size : Int) - (q : Int) < 32 := by omega
        have hq32 : (q : Int) + 32 ≤ (s.size : Int) := by omega
        obtain ⟨f, hf⟩ : ∃ f, formL (s.extract a b).data.toList cs (s.extract q (q + 32)).data.toList = f := ⟨_, rfl⟩
        have HE : Hid (getT s.data.toList p = if f = true then some ((a, b), cs, q) else none) := Lib.hid (by
          unfold getT
          rw [hr]
          simp only [hr2]
          rw [if_neg (by rw [size_list]; exact hend), ← hf, extract_list, extract_list, Nat.add_sub_cancel_left])
        have HF : Hid (∀ w' v, Row w' v cs → Calls Tryd.prog 31 #[.agg #[.string (s.extract a b), v, .string (s.extract q (q + 32))]] w' fun e w'' => e = .returned (.bool f) ∧ Below w'.heap.size w' w'') := Lib.hid fun w' v h => by rw [← hf]; exact hasForm_any _ v cs _ w' h (by omega)
        clear hr hr2 hfair hf
        unfold TellsCs at HC
        go_enter Tryd.func13, Tryd.ntmps13
        go_wp2_with fail
        with_reducible refine (HG.out _).mono ?_
        rintro e w1 ⟨rfl, b1⟩
        go_wp2_with fail
        with_reducible refine (HC.out _).mono ?_
        rintro e w2 ⟨⟨v, rfl, hown⟩, b2⟩
        have hh1 := keep (keep hh0 b1) b2
        have hb1' := hb0.trans (b1.mono hb0.size)
        have hb1 := hb1'.trans (b2.mono hb1'.size)
        have hTB : w.heap.size < w1.heap.size := (Array.getElem?_eq_some_iff.1 (keep hh0 b1)).1
        obtain ⟨c0, c1, c2, f0, f1, f2⟩ := cells3 hh1
        have ho2 := ((hown.set (T := w.heap.size) (i := 0) (u := .string (s.extract a b)) hTB).set (T := w.heap.size) (i := 1) (u := v) hTB).set (T := w.heap.size) (i := 2) (u := .string (s.extract q (q + 32))) hTB
        have hres := set3_box hh1 (.string (s.extract a b)) v (.string (s.extract q (q + 32)))
        have hbl := set3_below (a := .string (s.extract a b)) (b := v) (c := .string (s.extract q (q + 32))) hb1 (Nat.le_refl _)
        obtain ⟨a', cap', hv', _, _⟩ := hown.slice
        obtain ⟨n', hn'⟩ : ∃ n, cs.length = n := ⟨_, rfl⟩
        rw [hn'] at hv'
        subst hv'
        have HO2 := Lib.hid ho2
        unfold set3 at hres hbl
        have HRow := Lib.hid (ho2.row HFair.out)
        have Hres := Lib.hid hres
        have Hbl := Lib.hid hbl
        have HB1 := Lib.hid hTB
        obtain ⟨s0, s1, s2, t0, t1, t2⟩ := cells3 hres
        clear ho2 hown hres hbl hb1 hb1' hh1 hh0 hb0 b1 b2 hTB
        generalize hA : s.extract a b = A at *
        have HA := Lib.hid hA
        clear hA
        go_wp2_with fail
        with_reducible refine (HF.out _ _ HRow.out).mono ?_
        rintro e w3 ⟨rfl, b3⟩
        have hh3 := keep Hres.out b3
        have hb3 := Hbl.out.trans (b3.mono Hbl.out.size)
        obtain ⟨g0, g1, g2, i0, i1, i2⟩ := cells3 hh3
        cases f with
        | true =>
          have ho3 := (((HO2.out.more b3).set (T := w.heap.size) (i := 0) (u := .string A) HB1.out).set (T := w.heap.size) (i := 1) (u := .slice a' n' cap') HB1.out).set (T := w.heap.size) (i := 2) (u := .string (s.extract q (q + 32))) HB1.out
          have HO3 := Lib.hid (ho3.base (B' := w.heap.size) (by have := HB1.out; omega))
          have hres := set3_box hh3 (.string A) (.slice a' n' cap') (.string (s.extract q (q + 32)))
          have hbl := set3_below (a := .string A) (b := .slice a' n' cap') (c := .string (s.extract q (q + 32))) hb3 (Nat.le_refl _)
          unfold set3 at hres hbl
          obtain ⟨e0, e1, e2, _⟩ := cells3 hres
          clear ho3 hres hh3 hb3 b3 s0 s1 s2 t0 t1 t2 c0 c1 c2 f0 f1 f2
          go_wp2
          refine bodyPost_ret (v := .tuple #[.agg #[.string A, .slice a' n' cap', .string (s.extract q (q + 32))], .int .i64 ((q + 32 : Nat) : Int), .bool true]) (by simp [results, Tryd.results13, go_sem, e0, e1, e2]) rfl ?_
          rw [HE.out, if_pos trivial]
          exact ⟨⟨.slice a' n' cap', by simp only [HA.out], HO3.out⟩, hbl⟩
        | false =>
          have hres := set3_box hh3 (.string ⟨#[]⟩) (.slice none 0 0) (.string ⟨#[]⟩)
          have hbl := set3_below (a := .string ⟨#[]⟩) (b := .slice none 0 0) (c := .string ⟨#[]⟩) hb3 (Nat.le_refl _)
          unfold set3 at hres hbl
          obtain ⟨e0, e1, e2, _⟩ := cells3 hres
          clear hres hh3 hb3 b3 s0 s1 s2 t0 t1 t2 c0 c1 c2 f0 f1 f2
          go_wp2
          refine bodyPost_ret (v := .tuple #[.agg #[.string ⟨#[]⟩, .slice none 0 0, .string ⟨#[]⟩], .int .i64 0, .bool false]) (by simp [results, Tryd.results13, go_sem, e0, e1, e2]) rfl ?_
          rw [HE.out, if_neg (by simp)]
          exact ⟨rfl, hbl⟩
end Go.Proofs.YthopegokjbibmaaDoor.Mac
