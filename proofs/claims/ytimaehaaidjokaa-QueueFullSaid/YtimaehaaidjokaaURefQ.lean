/- What the statements' own refQ and sameQ answer of any queues: the same queue, of the document's entries; are two of them the same; of memory that was there nothing turns. -/
import Derived.Test.YtimaehaaidjokaaUSame
import Derived.Deep.RegionHeld3
namespace Go.Proofs.Ytimaehaaidjokaa.Queue
open Go.RowKit

theorem step_own {P : Program} (w : World) {ops : Array Oper} {o : Oper} {a : Act} {K : Act → World → Prop} {Q : Exit → Act → World → Prop} {E : Prop} (hgd : o.guard = none) (s x : Operand) (t : TypeId)
    (ho : o.op = .call { callee := .builtin .append, args := #[s, x], argTypes := #[t, t] })
    (base : Nat) (e : TypeId) (i : TypeInfo) (z : Value) (size bytes : Nat) (ht : P.underlying t = some (.slice e)) (hi : P.info? e = some i) (hz : i.zero = some z)
    (hsize : i.size = size) (hby : i.bytes = bytes) (hzs : z.cells.size = size) (hsz : 0 < size)
    (v : Value) (n : Nat) (xs : List Value) (hs : a.eval s = v) (hown : w.ownsRow base e size v n xs)
    (ad : Addr) (m c : Nat) (news : List Value) (hx : a.eval x = .slice (some ad) m c) (hl : news.length = m * size) (hnews : ∀ j u, news[j]? = some u → w.cell? (ad.add j) = some u) (h1 : ∀ u ∈ news, u.oneCell' = true)
    (h63 : n + m ≤ maxLen) (hbytes : (n + m) * bytes ≤ 140737488355328) (hbase : base ≤ w.heap.size)
    (h : ∀ v' w', w'.ownsRow base e size v' (n + m) (xs ++ news) → w.grownBy w' v.ownBlock → K (a.put o.dst v') w') :
    if Region.wanted o (yielded ops a.tmps) = true then Oper.wp P o a w K Q else E := by
  have hw : Region.wanted o (yielded ops a.tmps) = true := by simp [Region.wanted, hgd]
  rw [if_pos hw]
  exact wp_append_own w s x t ho base e i z size bytes ht hi hz hsize hby hzs hsz v n xs hs hown ad m c news hx hl hnews h1 h63 hbytes hbase fun v' w' h2 h3 _ => h v' w' h2 h3

set_option maxHeartbeats 4000000 in
set_option maxRecDepth 100000 in
theorem refQ_rows (v : Value) (ls : List E) (w : World) (hv : Row w v ls) (hl : ls.length ≤ 8796093022208) :
    Calls Try.prog 10 #[v] w fun e w' => (∃ u, e = .returned u ∧ Row w' u ls) ∧ Below w.heap.size w w' := by
  obtain ⟨i0, hi, hz0, hz1, hz2⟩ := info_parts infoR
  obtain ⟨ad, cap, rfl, _, _⟩ := hv.slice
  have HV := Lib.hid hv
  clear hv
  go_enter Try.func10, Try.ntmps10
  go_wp2
  go_loopw [3, 4] (fun t i wr => ∃ k : Nat, k ≤ ls.length ∧ i = .int .i64 k ∧ wr.ownsRow w.heap.size 34 2 t (ls.take k).length ((ls.take k).flatMap enc) ∧ Below w.heap.size w wr) (fun _ i _ => ls.length - (intOf i).toNat)
  case atStart => exact ⟨0, Nat.zero_le _, rfl, World.ownsRow_nil _ _ _ _, Below.refl _ _⟩
  case round =>
    obtain ⟨k, hk, rfl, hown, hb⟩ := hrel
    have HO := Lib.hid hown
    clear hown
    by_cases hlt : k < ls.length
    · have hltz : (k : Int) < (ls.length : Int) := by omega
      have hk0 : (0 : Int) ≤ (k : Int) := by omega
      obtain ⟨g, o, rfl, hg, hc⟩ := HV.out.cells hlt
      obtain ⟨x, hx⟩ : ∃ x, ls[k]? = some x := ⟨_, List.getElem?_eq_getElem hlt⟩
      have HN1 : Hid (ls.take (k + 1) = ls.take k ++ [x]) := Lib.hid (by rw [List.take_add_one, hx]; rfl)
      have HK : Hid (∀ x', Below w.heap.size w x' → x'.cell? ⟨g, o + k * 2, none⟩ = some (.int .u64 (x.1 : Int)) ∧ x'.cell? ⟨g, o + k * 2 + 1, none⟩ = some (.int .i64 x.2)) := Lib.hid fun x' h => (hc.below hg h k x hx).2
      have hlk : (ls.take k).length = k := by rw [List.length_take]; omega
      have HLz : Hid ((ls.take k).length + 1 ≤ maxLen ∧ ((ls.take k).length + 1) * 16 ≤ 140737488355328 ∧ w.heap.size ≤ wr.heap.size + 1) := Lib.hid (by have := hb.size; unfold maxLen; omega)
      have HO2 : Hid (∀ x, (wr.drew.alloc x).ownsRow w.heap.size 34 2 u3 (ls.take k).length ((ls.take k).flatMap enc)) := Lib.hid fun x => World.ownsRow.alloc (w := wr.drew) HO.out x
      have hs0 : Below wr.heap.size wr wr.drew := (Below.refl _ _).drew
      have hb2 : Below w.heap.size w wr.drew := hb.drew
      clear hx hc hlk
      obtain ⟨x1, x2⟩ := x
      simp only at HK
      have hb3 : Below w.heap.size w (World.alloc wr.drew (.cells #[.int .u64 (x1 : Int), .int .i64 x2] 34)) := hb2.alloc hb2.size _
      go_wp2_with fail
      go_region_held3 (fun x => x.cell? ⟨g, o + k * 2, none⟩ = some (.int .u64 (x1 : Int)) ∧ x.cell? ⟨g, o + k * 2 + 1, none⟩ = some (.int .i64 x2))
        (first | exact HK.out _ hb2 | exact HK.out _ hb3 | exact HK.out _ b5)
        (first | (refine step_own _ rfl _ _ 27 rfl w.heap.size 34 i0 zeroE 2 16 Try.underlying27 hi hz0 hz1 hz2 rfl (by decide) u3 _ _ rfl (HO2.out _) ⟨wr.heap.size, 0, none⟩ 1 1 [.int .u64 (x1 : Int), .int .i64 x2] rfl rfl (new_two _ wr.drew _ _) (fun u hu => by simp at hu; rcases hu with rfl | rfl <;> rfl) HLz.out.1 HLz.out.2.1 (by show _ ≤ (World.alloc wr _).heap.size; rw [World.size_alloc]; exact HLz.out.2.2) ?_; intro v5 w5 hown5 hgr5; have b5 : Below w.heap.size w w5 := hb3.grown hgr5 hb3.size (fun k hk => (HO.out.lt k hk).1)))
      have hown4 : w5.ownsRow w.heap.size 34 2 v5 (ls.take (k + 1)).length ((ls.take (k + 1)).flatMap enc) := by rw [HN1.out, List.length_append, List.flatMap_append]; simpa [enc] using hown5
      clear hown5 hgr5
      go_wp2
      go_roundw
      case rel => exact ⟨k + 1, by omega, by go_num, hown4, b5⟩
      case measure => simp [intOf]; omega
    · obtain rfl : k = ls.length := by omega
      have HO' := HO.out
      rw [List.take_length] at HO'
      clear HO
      have HO := Lib.hid HO'
      have HF := Lib.hid HV.out.fair
      clear HO'
      go_wp2
      go_ret
      exact ⟨⟨_, rfl, Mine.row HO.out HF.out⟩, hb⟩

set_option maxHeartbeats 4000000 in
set_option maxRecDepth 100000 in
theorem sameQ_rows (u v : Value) (a b : List E) (w : World) (hu : Row w u a) (hv : Row w v b) (ha : a.length ≤ 8796093022208) :
    Calls Try.prog 15 #[u, v] w fun e w' => e = .returned (.bool (decide (a = b))) ∧ Below w.heap.size w w' := by
  obtain ⟨y, cy, rfl, _, _⟩ := hv.slice
  have HV := Lib.hid hv
  have HQ := Lib.hid (refQ_rows u a w hu ha)
  clear hu hv
  go_enter Try.func15, Try.ntmps15
  go_wp2_with fail
  (with_reducible refine HQ.out.mono ?_)
  rintro _ wq ⟨⟨r, rfl, hr⟩, hbq⟩
  obtain ⟨x, cx, rfl, _, _⟩ := hr.slice
  have HU := Lib.hid hr
  clear hr
  have HV := Lib.hid (HV.out.below hbq)
  by_cases hl : a.length = b.length
  · have hln : ((a.length : Int) == (b.length : Int)) = true := by rw [hl]; simp
    have hlm : ((a.length : Int) != (b.length : Int)) = false := by rw [hl]; simp
    have HL := Lib.hid hl
    clear hl
    go_wp2
    go_loopw [6] (fun i wr => ∃ k : Nat, k ≤ a.length ∧ i = .int .i64 k ∧ a.take k = b.take k ∧ Below wq.heap.size wq wr) (fun i _ => a.length - (intOf i).toNat)
    case atStart => exact ⟨0, Nat.zero_le _, rfl, by simp, Below.refl _ _⟩
    case round =>
      obtain ⟨k, hk, rfl, ht, hb⟩ := hrel
      have HT := Lib.hid ht
      clear ht
      by_cases hlt : k < a.length
      · have hltz : (k : Int) < (a.length : Int) := by omega
        have hltb : k < b.length := by have := HL.out; omega
        have hltw : (k : Int) < (b.length : Int) := by omega
        have hk0 : (0 : Int) ≤ (k : Int) := by omega
        obtain ⟨g, o, rfl, hg, hc⟩ := HU.out.cells hlt
        obtain ⟨g', o', rfl, hg', hc'⟩ := HV.out.cells hltb
        obtain ⟨x, hx⟩ : ∃ x, a[k]? = some x := ⟨_, List.getElem?_eq_getElem hlt⟩
        obtain ⟨y, hy⟩ : ∃ y, b[k]? = some y := ⟨_, List.getElem?_eq_getElem hltb⟩
        obtain ⟨_, c1, c2⟩ := hc.below hg hb k x hx
        obtain ⟨_, d1, d2⟩ := hc'.below hg' hb k y hy
        have HA : Hid (a.take (k + 1) = a.take k ++ [x]) := Lib.hid (by rw [List.take_add_one, hx]; rfl)
        have HB : Hid (b.take (k + 1) = b.take k ++ [y]) := Lib.hid (by rw [List.take_add_one, hy]; rfl)
        have HX := Lib.hid hx
        have HY := Lib.hid hy
        obtain ⟨q, hq⟩ : ∃ q, eqE x y = q := ⟨_, rfl⟩
        have hne : ∀ w, (binOp .neq 34 (.agg #[.int .u64 (x.1 : Int), .int .i64 x.2]) (.agg #[.int .u64 (y.1 : Int), .int .i64 y.2])).run Try.prog w = .ok (.bool (!q)) w := fun w => by rw [← hq]; exact neq_r x y w
        have HQ := Lib.hid hq
        clear hx hy hq hc hc'
        obtain ⟨x1, x2⟩ := x
        obtain ⟨y1, y2⟩ := y
        cases q with
        | true =>
          go_wp2
          go_quiet (fail)
          go_wp2
          go_roundw
          case rel => exact ⟨k + 1, by omega, by go_num, by rw [HA.out, HB.out, HT.out, (eqE_iff _ _).1 HQ.out], below_drewN hb _⟩
          case measure => simp [intOf]; omega
        | false =>
          have HE : Hid (decide (a = b) = false) := Lib.hid (decide_eq_false fun h => by
            have h1 := HX.out
            rw [h, HY.out] at h1
            have h2 := (eqE_iff (x1, x2) (y1, y2)).2 (by simpa using h1.symm)
            rw [HQ.out] at h2
            cases h2)
          go_wp2
          go_quiet (fail)
          go_wp2
          go_ret
          exact ⟨by rw [HE.out]; rfl, hbq.trans ((below_drewN hb _).mono hbq.size)⟩
      · have hltz : ¬ (k : Int) < (a.length : Int) := by omega
        have HE : Hid (decide (a = b) = true) := Lib.hid (decide_eq_true (by
          have h1 := HT.out
          rw [List.take_of_length_le (by omega), List.take_of_length_le (by have := HL.out; omega)] at h1
          exact h1))
        go_wp2
        go_ret
        exact ⟨by rw [HE.out]; rfl, hbq.trans (hb.mono hbq.size)⟩
  · have HE : Hid (decide (a = b) = false) := Lib.hid (decide_eq_false (fun h => hl (by rw [h])))
    have hln : ((a.length : Int) == (b.length : Int)) = false := by rw [beq_eq_false_iff_ne]; omega
    have hlm : ((a.length : Int) != (b.length : Int)) = true := by rw [bne_iff_ne]; omega
    clear hl
    go_wp2
    go_ret
    exact ⟨by rw [HE.out]; rfl, hbq⟩
end Go.Proofs.Ytimaehaaidjokaa.Queue
