/- Proved: demesnelaw08.FrameBack answers true for every texts, text and number, and leaves them as they were. No condition. -/
import Derived.Test.YtlifobfbaiabgaaEnd
import Derived.Test.YtlifobfbaiabgaaFExam
import Derived.Test.YtlifobfbaiabgaaFTold
import Derived.Deep.RegionHeld3
import Derived.Deep.DeepCutAuto
import Derived.Deep.AppendLies
namespace Go.Proofs.Ytlifobfbaiabgaa.frameBack
open Go.ChangeShapes Go.WideShapes Go.ChangeAt Go.RowKit
open Go.Proofs.Ytlifobfbaiabgaa.Frame Go.Proofs.Ytlifobfbaiabgaa.Texts

theorem step_own {P : Program} (w : World) {ops : Array Oper} {o : Oper} {a : Act} {K : Act → World → Prop} {Q : Exit → Act → World → Prop} {E : Prop} (hgd : o.guard = none) (s x : Operand) (t : TypeId)
    (ho : o.op = .call { callee := .builtin .append, args := #[s, x], argTypes := #[t, t] })
    (base : Nat) (e : TypeId) (i : TypeInfo) (z : Value) (size bytes : Nat) (ht : P.underlying t = some (.slice e)) (hi : P.info? e = some i) (hz : i.zero = some z)
    (hsize : i.size = size) (hby : i.bytes = bytes) (hzs : z.cells.size = size) (hsz : 0 < size)
    (v : Value) (n : Nat) (xs : List Value) (hs : a.eval s = v) (hown : w.ownsRow base e size v n xs)
    (ad : Addr) (m c : Nat) (news : List Value) (hx : a.eval x = .slice (some ad) m c) (hl : news.length = m * size) (hnews : ∀ j u, news[j]? = some u → w.cell? (ad.add j) = some u) (h1 : ∀ u ∈ news, u.oneCell' = true)
    (h63 : n + m ≤ maxLen) (hbytes : (n + m) * bytes ≤ 140737488355328) (hbase : base ≤ w.heap.size)
    (h : ∀ v' w', w'.ownsRow base e size v' (n + m) (xs ++ news) → w.grownBy w' v.ownBlock → K (a.put o.dst v') w') :
    if Region.wanted o (yielded ops a.tmps) = true then Oper.wp P o a w K Q else E := by
  have hw : Region.wanted o (yielded ops a.tmps) = true := by simp [Region.wanted, hgd]
  rw [if_pos hw]
  exact wp_append_own w s x t ho base e i z size bytes ht hi hz hsize hby hzs hsz v n xs hs hown ad m c news hx hl hnews h1 h63 hbytes hbase fun v' w' h2 h3 _ => h v' w' h2 h3

/-- The append's step, where a guard lets it. -/
theorem wpList_append_wanted {P : Program} (w : World) {ops : Array Oper} {rest : List Oper} {o : Oper} {a : Act} {Q : Exit → Act → World → Prop} (hw : Region.wanted o (yielded ops a.tmps) = true) (s x : Operand) (t : TypeId)
    (ho : o.op = .call { callee := .builtin .append, args := #[s, x], argTypes := #[t, t] })
    (base : Nat) (e : TypeId) (i : TypeInfo) (z : Value) (size bytes : Nat) (ht : P.underlying t = some (.slice e)) (hi : P.info? e = some i) (hz : i.zero = some z)
    (hsize : i.size = size) (hby : i.bytes = bytes) (hzs : z.cells.size = size) (hsz : 0 < size)
    (v : Value) (n : Nat) (xs : List Value) (hs : a.eval s = v) (hown : w.ownsRow base e size v n xs)
    (ad : Addr) (m c : Nat) (news : List Value) (hx : a.eval x = .slice (some ad) m c) (hl : news.length = m * size) (hnews : ∀ j u, news[j]? = some u → w.cell? (ad.add j) = some u) (h1 : ∀ u ∈ news, u.oneCell' = true)
    (h63 : n + m ≤ maxLen) (hbytes : (n + m) * bytes ≤ 140737488355328) (hbase : base ≤ w.heap.size)
    (h : ∀ v' w', w'.ownsRow base e size v' (n + m) (xs ++ news) → w.grownBy w' v.ownBlock → wpList P ops Q rest (a.put o.dst v') w') : wpList P ops Q (o :: rest) a w :=
  wpList_step fun K hK => by
    rw [if_pos hw]
    exact wp_append_own w s x t ho base e i z size bytes ht hi hz hsize hby hzs hsz v n xs hs hown ad m c news hx hl hnews h1 h63 hbytes hbase fun v' w' h2 h3 _ => hK _ _ (h v' w' h2 h3)

/-- What was asked to be told, so far. -/
def cuts (ls : List ByteArray) (k : Nat) : List ByteArray := (ls.take k).map cutT
theorem cuts_len {ls : List ByteArray} {k : Nat} (h : k ≤ ls.length) : (cuts ls k).length = k := by simp [cuts]; omega
theorem cuts_next {ls : List ByteArray} {k : Nat} {x : ByteArray} (h : ls[k]? = some x) : cuts ls (k + 1) = cuts ls k ++ [cutT x] := by
  unfold cuts
  rw [List.take_add_one, h, List.map_append]
  rfl
theorem cuts_small (ls : List ByteArray) (k : Nat) : ∀ b ∈ cuts ls k, b.size ≤ 2000 := by
  intro b hb
  obtain ⟨x, _, rfl⟩ := List.mem_map.1 hb
  exact cutT_size x

set_option maxRecDepth 100000 in
set_option maxHeartbeats 4000000 in
theorem walk (v : Value) (ls : List ByteArray) (hl16 : ls.length * 16 ≤ 140737488351232) (_hz : ∀ x ∈ ls, x.size ≤ 140737488351232) (last : ByteArray) (hs : last.size ≤ 140737488351232) (cut_ : Int) (c0 : 0 ≤ cut_) (c1 : cut_ ≤ 65535) (w : World) (hrow : SRow w v ls) :
    Calls Try.prog 4 #[v, .string last, .int .u16 cut_] w fun e w' => e = .returned (.bool true) ∧ Below w.heap.size w w' := by
  obtain ⟨ct, rfl⟩ := Int.eq_ofNat_of_zero_le c0
  have hl : ls.length ≤ 8796093021952 := by omega
  clear hl16
  obtain ⟨va, vcap, rfl, _⟩ := hrow.slice
  have HRow := Lib.hid hrow
  clear hrow
  obtain ⟨i0, hi, hz0, hz1, hz2⟩ := info_parts infoS
  go_enter Try.func4, Try.ntmps4
  go_wp2_with fail
  refine (examples_any _).mono ?_
  rintro e w1 ⟨rfl, hw1⟩
  have HW1 := Lib.hid hw1
  have HRow1 := Lib.hid (HRow.out.below hw1)
  clear hw1 HRow
  go_wp2
  go_loopw [8, 9, 10] (fun s all i wr => ∃ (k : Nat) (A : ByteArray), k ≤ ls.length ∧ i = .int .i64 k ∧ s = .string A ∧ A = str (recs (cuts ls k)) ∧ wr.ownsRow w1.heap.size 9 1 all k (svals (cuts ls k)) ∧ Below w1.heap.size w1 wr) (fun _ _ i _ => ls.length - (intOf i).toNat)
  case atStart => exact ⟨0, ⟨#[]⟩, Nat.zero_le _, rfl, rfl, rfl, by simpa [cuts, svals] using World.ownsRow_nil w1 w1.heap.size 9 1, Below.refl _ _⟩
  case round =>
    obtain ⟨k, A, hk, rfl, rfl, hA, hown, hb⟩ := hrel
    have HA := Lib.hid hA
    have hAs : A.size ≤ 2008 * k := by rw [hA, str_size]; have := recs_len (cuts ls k) (cuts_small ls k); rw [cuts_len hk] at this; exact this
    clear hA
    by_cases hlt : k < ls.length
    · have hltz : (k : Int) < (ls.length : Int) := by omega
      have hk0 : (0 : Int) ≤ (k : Int) := by omega
      obtain ⟨g, o, rfl, hg, hcell⟩ := HRow1.out.cells hlt
      obtain ⟨x, hx⟩ : ∃ x, ls[k]? = some x := ⟨_, List.getElem?_eq_getElem hlt⟩
      have hcx := hcell.below hg hb k x hx
      have HG := Lib.hid hg
      have HC := Lib.hid (cuts_next hx)
      have HLn := Lib.hid (cuts_len hk)
      have HOWN := Lib.hid hown
      have HO2 : Hid (∀ o, (wr.drew.alloc o).ownsRow w1.heap.size 9 1 u9 k (svals (cuts ls k))) := Lib.hid fun o => World.ownsRow.alloc (w := wr.drew) hown o
      have HLz : Hid (k + 1 ≤ maxLen ∧ (k + 1) * 16 ≤ 140737488355328 ∧ w1.heap.size ≤ wr.heap.size + 1) := Lib.hid (by have := hb.size; unfold maxLen; omega)
      clear hcell hg hx hown
      by_cases hbig : 2000 < x.size
      · have hbz : (2000 : Int) < (x.size : Int) := by omega
        have hmin : ∀ w, (Builtin.min_ #[3, 3] 3 #[.int .i64 (x.size : Int), .int .i64 2000]).run Try.prog w = .ok (.int .i64 2000) w := fun w => by rw [run_min_int2, if_pos hbz]
        have hle : (2000 : Int) ≤ (x.size : Int) := by omega
        have hcut : cutT x = (x.extract 0 2000) := by unfold cutT; rw [if_pos hbig]
        rw [hcut] at HC
        have hys : (x.extract 0 2000).size ≤ 2000 := by rw [← hcut]; exact cutT_size x
        clear hcut
        have hs0 : Below wr.heap.size wr wr.drew := (Below.refl _ _).drew
        have hs1 : Below wr.heap.size wr (World.alloc wr.drew (.cells #[.string (x.extract 0 2000)] 9)) := hs0.alloc hs0.size _
        have hb2 : Below w1.heap.size w1 (World.alloc wr.drew (.cells #[.string (x.extract 0 2000)] 9)) := hb.trans (hs1.mono hb.size)
        have hcx1 : (World.alloc wr.drew (.cells #[.string (x.extract 0 2000)] 9)).cell? ⟨g, o + k, none⟩ = some (.string x) := by
          rw [hs1.cell (p := ⟨g, o + k, none⟩) (Nat.lt_of_lt_of_le HG.out hb.size)]; exact hcx
        have HFar : Hid (∀ w', World.grownBy (World.alloc wr.drew (.cells #[.string (x.extract 0 2000)] 9)) w' u9.ownBlock → w'.cell? ⟨g, o + k, none⟩ = some (.string x)) := Lib.hid fun w' h => by
          rw [h.cell_far ⟨g, o + k, none⟩ (by rw [World.size_alloc]; exact Nat.lt_succ_of_lt (Nat.lt_of_lt_of_le HG.out hb.size)) (fun he => by have := (HOWN.out.lt g he.symm).1; have := HG.out; omega)]
          exact hcx1
        go_wp2
        go_region_held3 (fun z => z.cell? ⟨g, o + k, none⟩ = some (.string x))
          (first | exact hcx | exact hcx1 | exact HFar.out _ hgr5)
          (first | (refine step_own _ rfl _ _ 22 rfl w1.heap.size 9 i0 (.string ⟨#[]⟩) 1 16 Try.underlying22 hi hz0 hz1 hz2 rfl (by decide) u9 _ _ rfl (HO2.out _) ⟨wr.heap.size, 0, none⟩ 1 1 [.string (x.extract 0 2000)] rfl rfl (new_one wr.drew _ _) (fun u hu => by simp at hu; rw [hu]; rfl) HLz.out.1 HLz.out.2.1 (by show _ ≤ (World.alloc wr _).heap.size; rw [World.size_alloc]; exact HLz.out.2.2) ?_; intro v5 w5 hown5 hgr5; have b5 : Below w1.heap.size w1 w5 := hb2.grown hgr5 hb2.size (fun k hk => (HOWN.out.lt k hk).1)))
        have hown6 : w5.ownsRow w1.heap.size 9 1 v5 (k + 1) (svals (cuts ls k ++ [(x.extract 0 2000)])) := by rw [svals_snoc]; exact hown5
        obtain ⟨g5, cap5, rfl, hc5⟩ := own_last HLn.out hown6
        have HOWN6 := Lib.hid hown6
        have HP := Lib.hid (put_any (x.extract 0 2000) (by omega))
        have hps := str_size (putF (x.extract 0 2000).data.toList)
        rw [putF_len (by rw [size_list]; omega), size_list] at hps
        have HAn : Hid (A ++ str (putF (x.extract 0 2000).data.toList) = str (recs (cuts ls (k + 1)))) := Lib.hid (by rw [HC.out, recs_snoc, ← str_append, HA.out])
        obtain ⟨p, hp⟩ : ∃ p, str (putF (x.extract 0 2000).data.toList) = p := ⟨_, rfl⟩
        rw [hp] at HP hps HAn
        have hpz : p.size ≤ 2008 := by omega
        clear hown5 hown6 hgr5 hp hs0 hs1 hb2 hcx1 HFar hcx hmin HO2 HA
        go_wp2_with fail
        refine (HP.out _).mono ?_
        rintro e w6 ⟨rfl, hb6⟩
        have hown7 := own_kept_below HOWN6.out hb6
        have b6 := b5.trans (hb6.mono b5.size)
        go_wp2
        go_roundw
        case rel => exact ⟨k + 1, A ++ p, by omega, by go_num, by go_num, HAn.out, by rw [HC.out]; exact hown7, b6⟩
        case measure => simp [intOf]; omega
      · have hbz : ¬ (2000 : Int) < (x.size : Int) := by omega
        have hmin : ∀ w, (Builtin.min_ #[3, 3] 3 #[.int .i64 (x.size : Int), .int .i64 2000]).run Try.prog w = .ok (.int .i64 (x.size : Int)) w := fun w => by rw [run_min_int2, if_neg hbz]
        have hle : ((x.size : Int) : Int) ≤ (x.size : Int) := by omega
        have hcut : cutT x = x := by unfold cutT; rw [if_neg hbig]; simp
        rw [hcut] at HC
        have hys : x.size ≤ 2000 := by rw [← hcut]; exact cutT_size x
        clear hcut
        have hs0 : Below wr.heap.size wr wr.drew := (Below.refl _ _).drew
        have hs1 : Below wr.heap.size wr (World.alloc wr.drew (.cells #[.string x] 9)) := hs0.alloc hs0.size _
        have hb2 : Below w1.heap.size w1 (World.alloc wr.drew (.cells #[.string x] 9)) := hb.trans (hs1.mono hb.size)
        have hcx1 : (World.alloc wr.drew (.cells #[.string x] 9)).cell? ⟨g, o + k, none⟩ = some (.string x) := by
          rw [hs1.cell (p := ⟨g, o + k, none⟩) (Nat.lt_of_lt_of_le HG.out hb.size)]; exact hcx
        have HFar : Hid (∀ w', World.grownBy (World.alloc wr.drew (.cells #[.string x] 9)) w' u9.ownBlock → w'.cell? ⟨g, o + k, none⟩ = some (.string x)) := Lib.hid fun w' h => by
          rw [h.cell_far ⟨g, o + k, none⟩ (by rw [World.size_alloc]; exact Nat.lt_succ_of_lt (Nat.lt_of_lt_of_le HG.out hb.size)) (fun he => by have := (HOWN.out.lt g he.symm).1; have := HG.out; omega)]
          exact hcx1
        go_wp2
        go_region_held3 (fun z => z.cell? ⟨g, o + k, none⟩ = some (.string x))
          (first | exact hcx | exact hcx1 | exact HFar.out _ hgr5)
          (first | (refine step_own _ rfl _ _ 22 rfl w1.heap.size 9 i0 (.string ⟨#[]⟩) 1 16 Try.underlying22 hi hz0 hz1 hz2 rfl (by decide) u9 _ _ rfl (HO2.out _) ⟨wr.heap.size, 0, none⟩ 1 1 [.string x] rfl rfl (new_one wr.drew _ _) (fun u hu => by simp at hu; rw [hu]; rfl) HLz.out.1 HLz.out.2.1 (by show _ ≤ (World.alloc wr _).heap.size; rw [World.size_alloc]; exact HLz.out.2.2) ?_; intro v5 w5 hown5 hgr5; have b5 : Below w1.heap.size w1 w5 := hb2.grown hgr5 hb2.size (fun k hk => (HOWN.out.lt k hk).1)))
        have hown6 : w5.ownsRow w1.heap.size 9 1 v5 (k + 1) (svals (cuts ls k ++ [x])) := by rw [svals_snoc]; exact hown5
        obtain ⟨g5, cap5, rfl, hc5⟩ := own_last HLn.out hown6
        have HOWN6 := Lib.hid hown6
        have HP := Lib.hid (put_any x (by omega))
        have hps := str_size (putF x.data.toList)
        rw [putF_len (by rw [size_list]; omega), size_list] at hps
        have HAn : Hid (A ++ str (putF x.data.toList) = str (recs (cuts ls (k + 1)))) := Lib.hid (by rw [HC.out, recs_snoc, ← str_append, HA.out])
        obtain ⟨p, hp⟩ : ∃ p, str (putF x.data.toList) = p := ⟨_, rfl⟩
        rw [hp] at HP hps HAn
        have hpz : p.size ≤ 2008 := by omega
        clear hown5 hown6 hgr5 hp hs0 hs1 hb2 hcx1 HFar hcx hmin HO2 HA
        go_wp2_with fail
        refine (HP.out _).mono ?_
        rintro e w6 ⟨rfl, hb6⟩
        have hown7 := own_kept_below HOWN6.out hb6
        have b6 := b5.trans (hb6.mono b5.size)
        go_wp2
        go_roundw
        case rel => exact ⟨k + 1, A ++ p, by omega, by go_num, by go_num, HAn.out, by rw [HC.out]; exact hown7, b6⟩
        case measure => simp [intOf]; omega
    · obtain rfl : k = ls.length := by omega
      have HBs := Lib.hid (cuts_small ls ls.length)
      have hBl := cuts_len (Nat.le_refl ls.length)
      obtain ⟨B, hB⟩ : ∃ B, cuts ls ls.length = B := ⟨_, rfl⟩
      rw [hB] at HBs hown HA hBl
      obtain ⟨n, hn⟩ : ∃ n, ls.length = n := ⟨_, rfl⟩
      rw [hn] at hown hAs hBl hl ⊢
      obtain ⟨o9, c9, rfl⟩ := own_form hown
      have HOWN := Lib.hid hown
      have HLs := Lib.hid hn
      clear hB hown hk HRow1 hn
      go_upto_region 11 with fail
      go_cut [1] (fun v wx => ∃ S : ByteArray, v = .string S ∧ S.size ≤ 2000 ∧ wx = wr)
      case first =>
        by_cases hbig : 2000 < last.size
        · have hbz : (2000 : Int) < (last.size : Int) := by omega
          go_wp2_with fail
          go_meet
          exact ⟨_, rfl, by rw [ByteArray.size_extract]; omega, rfl⟩
        · have hbz : ¬ (2000 : Int) < (last.size : Int) := by omega
          go_wp2_with fail
          go_meet
          exact ⟨_, rfl, by omega, rfl⟩
      case rest =>
        obtain ⟨S, rfl, hS, rfl⟩ := hcut
        clear hs
        have hPs := str_size (putF S.data.toList)
        rw [putF_len (by rw [size_list]; omega), size_list] at hPs
        have HP := Lib.hid (put_any S (by omega))
        have HT1 : Hid (∀ m, m < S.size + 8 → told (A ++ (str (putF S.data.toList)).extract 0 m) = B ∧ (allL (A ++ (str (putF S.data.toList)).extract 0 m).data.toList).2 = A.size) := Lib.hid fun m hm => by
          have e : A ++ (str (putF S.data.toList)).extract 0 m = str (recs B ++ (putF S.data.toList).take m) := by
            rw [str_ext 0 m, str_toList, HA.out, str_append]
            unfold cut
            simp
          rw [e]
          have := told_torn B S (str (recs B ++ (putF S.data.toList).take m)) m (str_toList _) (by rw [putF_len (by rw [size_list]; omega), size_list]; exact hm) (fun b hb => by have := HBs.out b hb; omega) (by omega)
          rw [HA.out, str_size]
          exact this
        have HT2 : Hid (told (A ++ str (putF S.data.toList)) = B ++ [S] ∧ (allL (A ++ str (putF S.data.toList)).data.toList).2 = A.size + (S.size + 8)) := Lib.hid (by
          have e : A ++ str (putF S.data.toList) = str (recs (B ++ [S])) := by rw [recs_snoc, HA.out, str_append]
          rw [e]
          have := told_whole (B ++ [S]) (str (recs (B ++ [S]))) (str_toList _) (fun b hb => by
            rcases List.mem_append.1 hb with hb | hb
            · have := HBs.out b hb; omega
            · have : b = S := by simpa using hb
              rw [this]; omega)
          rw [HA.out, str_size]
          refine ⟨this.1, ?_⟩
          rw [this.2, recs_snoc, List.length_append, putF_len (by rw [size_list]; omega), size_list])
        obtain ⟨P, hP⟩ : ∃ P, str (putF S.data.toList) = P := ⟨_, rfl⟩
        rw [hP] at hPs HP HT1 HT2
        rw [← hPs] at HT1 HT2
        have hPe : ((P.size : Int) == (S.size : Int) + 8) = true := by rw [beq_iff_eq]; omega
        have hPn : ((P.size : Int) != (S.size : Int) + 8) = false := by rw [bne_eq_false_iff_eq]; omega
        have HPs := Lib.hid hPs
        have hP8 : P.size ≤ 2008 := by omega
        have hP0 : ¬ (P.size : Int) = 0 := by omega
        obtain ⟨m, hm⟩ : ∃ m, ct % P.size = m := ⟨_, rfl⟩
        have hmP : m < P.size := by have := Nat.mod_lt ct (by omega : 0 < P.size); omega
        have hmz : (ct : Int) % (P.size : Int) = (m : Int) := by rw [← hm, Int.natCast_emod]
        have hmle : (m : Int) ≤ (P.size : Int) := by omega
        have HM := HT1.out m hmP
        have HM1 := Lib.hid HM.1
        have HM2 := Lib.hid HM.2
        have HA1 := Lib.hid (fun w => told_few (A ++ P.extract 0 m) (by rw [ByteArray.size_append, ByteArray.size_extract]; omega) (by rw [HM.1, hBl]; omega) w)
        have HA2 := Lib.hid (fun w => told_few (A ++ P) (by rw [ByteArray.size_append]; omega) (by rw [HT2.out.1, List.length_append, hBl]; simp; omega) w)
        have hA1s : (A ++ P.extract 0 m).size ≤ 4611686018427387904 := by rw [ByteArray.size_append, ByteArray.size_extract]; omega
        have hA2s : (A ++ P).size ≤ 4611686018427387904 := by rw [ByteArray.size_append]; omega
        have hmx : (P.extract 0 m).size ≤ 2008 := by rw [ByteArray.size_extract]; omega
        rw [HM.1, HM.2] at HA1
        rw [HT2.out.1, HT2.out.2] at HA2
        clear HM hm hP HA HT1 HT2 HM1 HM2 hPs
        go_wp2_with fail
        refine (HP.out _).mono ?_
        rintro e w5 ⟨rfl, hb5⟩
        have HO5 := Lib.hid (own_kept_below HOWN.out hb5)
        go_wp2_with fail
        refine (HA1.out _).mono ?_
        rintro e w6 ⟨m6, rfl, hm6, hb6⟩
        rw [hBl] at hm6
        obtain ⟨om, cm, rfl⟩ := own_form hm6
        have HO6 := Lib.hid (own_kept_below HO5.out hb6)
        have HM6 := Lib.hid hm6
        clear hm6
        go_wp2_with fail
        refine (HA2.out _).mono ?_
        rintro e w7 ⟨n7, rfl, hn7, hb7⟩
        rw [List.length_append, hBl] at hn7
        obtain ⟨on, cn, rfl⟩ := own_form hn7
        have HO7 := Lib.hid (own_kept_below HO6.out hb7)
        have HM7 := Lib.hid (own_kept_below HM6.out hb7)
        have HN7 := Lib.hid hn7
        have HNe : Hid ((Value.slice on (n + 1) cn).ownBlock = none ∨ (Value.slice on (n + 1) cn).ownBlock ≠ (Value.slice o9 n c9).ownBlock) := Lib.hid (by
          rcases hk7 : (Value.slice on (n + 1) cn).ownBlock with _ | k7
          · exact .inl rfl
          · refine .inr fun he => ?_
            have h1 := (hn7.lt k7 hk7).1
            have h2 := (HO6.out.lt k7 he.symm).2
            omega)
        have hbA := hb5.trans ((hb6.trans (hb7.mono hb6.size)).mono hb5.size)
        have hb' := hb.trans (hbA.mono hb.size)
        have hsm := hb'.size
        have HS1 := Lib.hid (same_yes (.slice om n cm) (.slice o9 n c9) B w7 (own_srow (by rw [hBl]; exact HM7.out)) (own_srow (by rw [hBl]; exact HO7.out)) (by omega))
        clear hn7 hb6 hb7 hb hb5 hbA HO5 HO6 HM6 HA1 HA2
        go_wp2_with fail
        refine HS1.out.mono ?_
        rintro e w8 ⟨rfl, hb8⟩
        have hO8 := own_kept_below HO7.out hb8
        have hN8 := own_kept_below HN7.out hb8
        have hb9 := hb'.trans (hb8.mono hb'.size)
        have hsz := hb9.size
        have hBn := HN7.out
        go_wp2_with (at_builtin; refine wpList_append_wanted _ (by kernel_rfl) _ _ 22 rfl w1.heap.size 9 i0 (.string ⟨#[]⟩) 1 16 Try.underlying22 hi hz0 hz1 hz2 rfl (by decide) _ _ _ rfl (hO8.alloc _) ⟨w8.heap.size, 0, none⟩ 1 1 [.string S] rfl rfl (new_one w8 _ _) (fun u hu => by simp at hu; rw [hu]; rfl) (by unfold maxLen; omega) (by omega) (by rw [World.size_alloc]; omega) ?_; intro v9 w9 hown9 hgr9; obtain ⟨g9, cap9, rfl⟩ := ownsRow_succ hown9)
        have hN9 := World.ownsRow.kept (w := w8.alloc (.cells #[.string S] 9)) (hN8.alloc _) hgr9 HNe.out
        have b9 : Below w1.heap.size w1 w9 := (hb9.alloc hb9.size _).grown hgr9 (by rw [World.size_alloc]; omega) (fun k hk => (hO8.lt k hk).1)
        have HS2 := Lib.hid (same_yes (.slice on (n + 1) cn) (.slice (some ⟨g9, 0, none⟩) (n + 1) cap9) (B ++ [S]) w9 (own_srow (by rw [List.length_append, hBl]; exact hN9)) (own_srow (by rw [List.length_append, hBl, svals_snoc]; exact hown9)) (by rw [List.length_append, hBl]; simp; omega))
        clear hN9 hown9 hgr9 hO8 hN8 hBn
        refine HS2.out.mono ?_
        rintro e w10 ⟨rfl, hb10⟩
        have hbF := grows HW1.out (b9.trans (hb10.mono b9.size))
        go_wp2
        go_ret
        exact ⟨rfl, hbF⟩

set_option maxRecDepth 100000 in
theorem lifted (os : Os) (started : os.Started) (H : Type) (enc : TypeId × Value → H) :
    ReturnsInHanded {} Try.checked os 4 .any (Rows.frameBackSpec.pre6 enc Try.prog Try.f4 Rows.frameBackRow.domain false) (Rows.frameBackSpec.post enc Try.prog Try.f4 false true false false) := by
  refine returnsInHanded_of_change_sized (C := Try.checked) Ends.own started (by kernel_rfl) Try.func4
    (ChangeSpec.witness6 (enc := enc) (C := Try.checked) false ⟨#[], #[.slice none 0 0, .string ⟨#[]⟩, .int .u16 0], []⟩ 8 (by kernel_rfl) (by kernel_rfl) (by kernel_rfl) (by kernel_rfl)) ?_
  intro W base args ds gs before hval0 hW _ hsz0 _
  have hval : ∀ (j : Nat) t v, Try.f4.params[j]? = some t → args[j]? = some v → Value.okWide Try.prog W .any base t v := hval0
  have hsz : (DataW.weightsEach Try.prog (Try.f4.params.toList ++ Rows.frameBackSpec.plain.varTypes Try.prog) (ds ++ gs)).all (· ≤ reachBytes) = true := hsz0
  have hW' := hW
  obtain ⟨p, q, hA0, hV, rfl, hfz, hnd⟩ := hW
  have hA : DataW.TrodAll enc Try.prog W 0 (fun _ => true) true Try.f4.params.toList args.toList ds p := hA0
  rw [Try.params4] at hA hval hsz
  obtain ⟨v0, vs0, d0, ds0, p0, q0, hargs, rfl, rfl, h0, r0⟩ := trodAll_cons hA
  obtain ⟨v1, vs1, d1, ds1, p1, q1, rfl, rfl, rfl, h1, r1⟩ := trodAll_cons r0
  obtain ⟨v2, vs2, d2, ds2, p2, q2, rfl, rfl, rfl, h2, r2⟩ := trodAll_cons r1
  obtain ⟨rfl, rfl, rfl⟩ := trodAll_nil r2
  obtain rfl : args = #[v0, v1, v2] := by cases args; simp_all
  obtain ⟨rfl, rfl⟩ := trodVars_none hV
  obtain ⟨a0, w0, g0⟩ := Texts.open_texts Try.underlying22 Try.underlying9 (by kernel_rfl) (hval 0 22 v0 rfl rfl) h0
  have q0 : ∀ n ∈ d0.weights Try.prog 22, n ≤ 140737488351232 := fun n hn => of_decide_eq_true (List.all_eq_true.1 hsz n (DataW.weights_mem_each (j := 0) rfl rfl n hn))
  have b0 := g0.reach (P := Try.prog) Try.underlying22 (by kernel_rfl) q0
  obtain ⟨a1, rfl, rfl, rfl, w1⟩ := Go.ChangeMaps.open_string Try.underlying9 (hval 1 9 v1 rfl rfl) h1
  obtain ⟨a2, rfl, rfl, rfl, w2⟩ := open_int Try.underlying23 (hval 2 23 v2 rfl rfl) h2
  have b1 : a1.size ≤ 140737488351232 := by have := sized_string hsz (j := 1) rfl rfl; rw [Array.length_toList] at this; exact this
  have b2 := bounds_u16 w2
  refine (walk v0 a0 b0.1 b0.2 a1 b1 a2 b2.1 b2.2 W w0).mono fun e W' ⟨he, hb⟩ => ?_
  subst he
  exact ⟨_, rfl, Ends.law_end Ends.laidOut (by rw [Try.params4]; decide +kernel) rfl (by kernel_rfl) Try.underlying4 hW' rfl hb⟩

/-- The statement. -/
theorem proved : Rows.FrameBackSaid :=
  OpenClaim.holds_of_wide 4 Try.f4 rfl rfl rfl rfl rfl rfl rfl ⟨rfl, rfl, rfl, rfl, rfl⟩ rfl rfl rfl rfl rfl (by kernel_rfl) Try.func4 (by kernel_rfl)
    (of_decide_eq_true (by kernel_rfl)) (by unfold Func.isWrapper; first | (rw [if_pos (by decide +kernel)]; kernel_rfl) | (rw [if_neg (by decide +kernel)]; exact ⟨rfl, rfl⟩))
    (fun os started H enc _ => lifted os started H enc)
end Go.Proofs.Ytlifobfbaiabgaa.frameBack
