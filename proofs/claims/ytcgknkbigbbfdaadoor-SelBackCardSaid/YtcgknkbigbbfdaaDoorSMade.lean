/- What the statements' own made answers, for every slice of bytes: a selector that is right; of memory that was there nothing turns. -/
import Derived.Test.YtcgknkbigbbfdaaDoorSLits
import Derived.Test.YtcgknkbigbbfdaaDoorArgs
import Derived.BigRegion
namespace Go.Proofs.YtcgknkbigbbfdaaDoor.Sel
open Go.RowKit Go.Proofs.YtcgknkbigbbfdaaDoor.Texts Go.Proofs.YtcgknkbigbbfdaaDoor.Word Go.Proofs.YtcgknkbigbbfdaaDoor.Forms Go.Proofs.YtcgknkbigbbfdaaDoor.Boxes Go.Proofs.YtcgknkbigbbfdaaDoor.Args

def keyAt : Nat → ByteArray
  | 0 => ⟨#[97]⟩
  | 1 => ⟨#[100, 105, 115, 107]⟩
  | 2 => ⟨#[122, 111, 110, 101]⟩
  | _ => ⟨#[206, 177, 206, 178]⟩
def valAt : Nat → ByteArray
  | 0 => ⟨#[97]⟩
  | 1 => ⟨#[98]⟩
  | 2 => ⟨#[99]⟩
  | _ => ⟨#[208, 180, 208, 190, 208, 188]⟩
/-- The first few values that a byte names. -/
def valsTo (c : Nat) : Nat → List ByteArray
  | 0 => []
  | k + 1 => if c / 2 ^ (4 + k) % 2 = 1 then valsTo c k ++ [valAt k] else valsTo c k
/-- The term that a byte names. -/
def madeT (c : Nat) : Tm := (keyAt (c % 4), decide (c / 4 % 2 = 1), valsTo c 4)
/-- The selector that bytes name. -/
def madeS (bs : List UInt8) : List Tm := (bs.take 4).map fun c => madeT c.toNat
theorem madeT_right : ∀ c, c < 256 → rightT (madeT c) = true := by decide +kernel
theorem madeS_right (bs : List UInt8) : rightS (madeS bs) = true := by
  unfold rightS madeS
  rw [Bool.and_eq_true, decide_eq_true_eq, List.length_map, List.all_map, List.all_eq_true]
  exact ⟨by rw [List.length_take]; omega, fun c _ => madeT_right c.toNat (by have := c.toNat_lt; omega)⟩
theorem valsTo_len (c : Nat) : ∀ k, (valsTo c k).length ≤ k
  | 0 => Nat.le_refl _
  | k + 1 => by
    have := valsTo_len c k
    unfold valsTo
    split
    · rw [List.length_append]; simp; omega
    · omega

/-- Terms behind one more, in a row of one's own. -/
theorem grow_terms {B : Nat} {w w3 w4 : World} {v : Value} {xs : List (Tm × Value)} {t : Tm} {s : Value} {g cap : Nat} {o : Obj} (hown0 : w.ownsRow B 51 3 v xs.length (tvals xs)) (hin : In (Beside B v) w xs) (hBw : B ≤ w.heap.size) (h3 : Below w.heap.size w w3) (hs : SNew w.heap.size w3 s t.2.2)
    (hgrow : (w3.alloc o).grownBy w4 v.ownBlock) (hat : v.ownBlock = some g ∨ g = w3.heap.size + 1) : In (Beside B (.slice (some ⟨g, 0, none⟩) (xs.length + 1) cap)) w4 (xs ++ [(t, s)]) := by
  have hvo : ∀ k, v.ownBlock = some k → B ≤ k ∧ k < w.heap.size := fun k hk => hown0.lt k hk
  have hsz : w3.heap.size + 1 ≤ w4.heap.size := by have := hgrow.size; rw [size_alloc] at this; exact this
  have h3s := h3.size
  have keep3 : ∀ k, k < w3.heap.size → v.ownBlock ≠ some k → w4.heap[k]? = w3.heap[k]? := fun k hk ho => by
    rw [hgrow.block k (by rw [size_alloc]; omega) (fun e => ho e.symm)]
    exact Below.heap_alloc _ _ _ hk
  have hg : v.ownBlock = some g ∨ w3.heap.size < g := hat.imp id (by omega)
  refine In.snoc ?_ ?_
  · refine hin.kept (by omega) fun k ⟨hk1, hk2⟩ hk3 => ⟨(keep3 k (by omega) hk2).trans (h3.block k hk3), hk1, ?_⟩
    rcases hg with hg | hg
    · intro e
      simp [Value.ownBlock] at e
      subst e
      exact hk2 hg
    · intro e
      simp [Value.ownBlock] at e
      omega
  · refine hs.sin.kept (by omega) fun k hk1 hk3 => ⟨keep3 k hk3 (fun e => by have := hvo k e; omega), by omega, ?_⟩
    rcases hg with hg | hg
    · intro e
      simp [Value.ownBlock] at e
      subst e
      have := hvo _ hg
      omega
    · intro e
      simp [Value.ownBlock] at e
      omega

theorem keys_at (j : Nat) (hj : j < 4) : (#[Value.string ⟨#[97]⟩, .string ⟨#[100, 105, 115, 107]⟩, .string ⟨#[122, 111, 110, 101]⟩, .string ⟨#[206, 177, 206, 178]⟩] : Array Value)[j]? = some (.string (keyAt j)) := by
  match j, hj with
  | 0, _ => rfl
  | 1, _ => rfl
  | 2, _ => rfl
  | 3, _ => rfl
theorem vals_at (j : Nat) (hj : j < 4) : (#[Value.string ⟨#[97]⟩, .string ⟨#[98]⟩, .string ⟨#[99]⟩, .string ⟨#[208, 180, 208, 190, 208, 188]⟩] : Array Value)[j]? = some (.string (valAt j)) := by
  match j, hj with
  | 0, _ => rfl
  | 1, _ => rfl
  | 2, _ => rfl
  | 3, _ => rfl

set_option maxRecDepth 100000 in
set_option maxHeartbeats 8000000 in
theorem made_any (v : Value) (bs : List UInt8) (w : World) (hv : Bytes w v bs) :
    Calls Tryd.prog 26 #[v] w fun e w' => (∃ u, e = .returned u ∧ TRow w' u (madeS bs)) ∧ Below w.heap.size w w' := by
  obtain ⟨i0, hi, hz0, hz1, hz2⟩ := info_parts infoT
  obtain ⟨j0, hj, hy0, hy1, hy2⟩ := info_parts infoS
  obtain ⟨o, cap, rfl, hm, hcell⟩ := hv
  have HC := Lib.hid hcell
  unfold maxLen at hm
  clear hcell
  go_enter Tryd.func26, Tryd.ntmps26
  go_wp2_with fail
  go_loopw [3, 4] (fun t i wr => ∃ (k : Nat) (xs : List (Tm × Value)), k ≤ bs.length ∧ k ≤ 4 ∧ i = .int .i64 k ∧ xs.length = k ∧ xs.map (·.1) = (bs.take k).map (fun c => madeT c.toNat) ∧ wr.ownsRow w.heap.size 51 3 t xs.length (tvals xs) ∧ In (Beside w.heap.size t) wr xs ∧ Below w.heap.size w wr) (fun _ i _ => 4 - (intOf i).toNat)
  case atStart => exact ⟨0, [], Nat.zero_le _, by omega, rfl, rfl, rfl, World.ownsRow_nil _ _ _ _, fun x hx => by simp at hx, Below.refl _ _⟩
  case round =>
    obtain ⟨wa, hwa⟩ : ∃ x, x = wr := ⟨_, rfl⟩
    subst hwa
    obtain ⟨k, xs, hk, hk4, rfl, hxl, hxm, hown, hin, hb⟩ := hrel
    have HXL := Lib.hid hxl
    have HXM := Lib.hid hxm
    have HOw := Lib.hid hown
    have HIn := Lib.hid hin
    clear hxl hxm hown hin
    by_cases hlt : k < bs.length
    · by_cases h4 : k < 4
      · obtain ⟨b, off, rfl, hbl, hc⟩ := HC.out (by intro h; rw [h] at hlt; simp at hlt)
        obtain ⟨c, hcb⟩ : ∃ c, c = bs[k] := ⟨_, rfl⟩
        have hcl : wa.cell? ⟨b, off + k, none⟩ = some (.int .u8 (c.toNat : Int)) := by rw [hb.cell hbl, hc k hlt, hcb]
        have HCB := Lib.hid hcb
        clear hcb hc
        have hc255 : c.toNat ≤ 255 := by have := c.toNat_lt; omega
        have h4z : (k : Int) < 4 := by omega
        have hltz : (k : Int) < (bs.length : Int) := by omega
        obtain ⟨m, hme⟩ : ∃ m, m = c.toNat % 4 := ⟨_, rfl⟩
        have hmod : (c.toNat : Int) % 4 = (m : Int) := by omega
        have htmod : (c.toNat : Int).tmod 4 = (m : Int) := by rw [Int.tmod_eq_emod_of_nonneg (by omega)]; omega
        have hm4 : (m : Int) < 4 := by omega
        have HM4 : Hid (m < 4) := Lib.hid (by omega)
        have HME := Lib.hid hme
        clear hme
        have hm0 : (0 : Int) ≤ (m : Int) := by omega
        obtain ⟨n, hne⟩ : ∃ n, n = decide (c.toNat / 4 % 2 = 1) := ⟨_, rfl⟩
        have hnot : (((c.toNat : Int) / 4 % 2) == 1) = n := by rw [hne, Bool.eq_iff_iff, beq_iff_eq, decide_eq_true_eq]; omega
        have hwrap : IntKind.u8.wrap ((c.toNat : Int) / 4) = (c.toNat : Int) / 4 := by rw [IntKind.wrap_u8]; omega
        have hnot2 : ((((c.toNat : Int) / 4).tmod 2) == 1) = n := by rw [Int.tmod_eq_emod_of_nonneg (by omega)]; exact hnot
        have HNE := Lib.hid hne
        clear hne
        have ht1 : ∀ W : World, (W.alloc (.cells #[Value.string ⟨#[97]⟩, .string ⟨#[100, 105, 115, 107]⟩, .string ⟨#[122, 111, 110, 101]⟩, .string ⟨#[206, 177, 206, 178]⟩] 9)).cell? ⟨W.heap.size, m, none⟩ = some (.string (keyAt m)) := fun W => cell_at (fresh W _) (keys_at m HM4.out)
        have hlk : ([Value.string ⟨#[97]⟩, .string ⟨#[100, 105, 115, 107]⟩, .string ⟨#[122, 111, 110, 101]⟩, .string ⟨#[206, 177, 206, 178]⟩] : List Value)[m]? = some (.string (keyAt m)) := by have := keys_at m HM4.out; rwa [← Array.getElem?_toList] at this
        obtain ⟨K, hK⟩ : ∃ K, K = keyAt m := ⟨_, rfl⟩
        rw [← hK] at ht1 hlk
        have HK := Lib.hid hK
        clear hK
        have e1 := ht1 wa.drew
        have e2 := ht1 (wa.drew.alloc (.cells #[.string ⟨#[]⟩, .bool false, .slice none 0 0] 51))
        rw [size_alloc] at e2
        change (wa.drew.alloc _).cell? ⟨wa.heap.size, m, none⟩ = _ at e1
        change ((wa.drew.alloc _).alloc _).cell? ⟨wa.heap.size + 1, m, none⟩ = _ at e2
        have hbr : b < wa.heap.size := Nat.lt_of_lt_of_le hbl hb.size
        have HCL : Hid (∀ W, Below wa.heap.size wa W → W.cell? ⟨b, off + k, none⟩ = some (.int .u8 (c.toNat : Int))) := Lib.hid fun W h => (h.cell (p := ⟨b, off + k, none⟩) hbr).trans hcl
        have hd0 : Below wa.heap.size wa wa.drew := (Below.refl _ _).drew
        have g1 := HCL.out (wa.drew.alloc (.cells #[Value.string ⟨#[97]⟩, .string ⟨#[100, 105, 115, 107]⟩, .string ⟨#[122, 111, 110, 101]⟩, .string ⟨#[206, 177, 206, 178]⟩] 9)) (grows hd0 (old _ _))
        have g2 := HCL.out (wa.drew.alloc (.cells #[.string ⟨#[]⟩, .bool false, .slice none 0 0] 51)) (grows hd0 (old _ _))
        have g3 := HCL.out ((wa.drew.alloc (.cells #[Value.string ⟨#[97]⟩, .string ⟨#[100, 105, 115, 107]⟩, .string ⟨#[122, 111, 110, 101]⟩, .string ⟨#[206, 177, 206, 178]⟩] 9)).alloc (.cells #[.string ⟨#[]⟩, .bool false, .slice none 0 0] 51)) (grows (grows hd0 (old _ _)) (old _ _))
        have g4 := HCL.out ((wa.drew.alloc (.cells #[.string ⟨#[]⟩, .bool false, .slice none 0 0] 51)).alloc (.cells #[Value.string ⟨#[97]⟩, .string ⟨#[100, 105, 115, 107]⟩, .string ⟨#[122, 111, 110, 101]⟩, .string ⟨#[206, 177, 206, 178]⟩] 9)) (grows (grows hd0 (old _ _)) (old _ _))
        clear ht1
        go_wp2_with fail
        go_region
        · have hT1 : (((wa.alloc (.cells #[Value.string ⟨#[97]⟩, .string ⟨#[100, 105, 115, 107]⟩, .string ⟨#[122, 111, 110, 101]⟩, .string ⟨#[206, 177, 206, 178]⟩] 9)).alloc (.cells #[.string K, .bool n, .slice none 0 0] 51)).drew).heap[(wa.heap.size + 1)]? = some (.cells #[.string K, .bool n, .slice none 0 0] 51) := fresh1 wa (.cells #[Value.string ⟨#[97]⟩, .string ⟨#[100, 105, 115, 107]⟩, .string ⟨#[122, 111, 110, 101]⟩, .string ⟨#[206, 177, 206, 178]⟩] 9) (.cells #[.string K, .bool n, .slice none 0 0] 51)
          have hbW : Below wa.heap.size wa (((wa.alloc (.cells #[Value.string ⟨#[97]⟩, .string ⟨#[100, 105, 115, 107]⟩, .string ⟨#[122, 111, 110, 101]⟩, .string ⟨#[206, 177, 206, 178]⟩] 9)).alloc (.cells #[.string K, .bool n, .slice none 0 0] 51)).drew) := (grows (grew wa _) (grew _ _)).drew
          obtain ⟨W1, hW1⟩ : ∃ W, W = ((wa.alloc (.cells #[Value.string ⟨#[97]⟩, .string ⟨#[100, 105, 115, 107]⟩, .string ⟨#[122, 111, 110, 101]⟩, .string ⟨#[206, 177, 206, 178]⟩] 9)).alloc (.cells #[.string K, .bool n, .slice none 0 0] 51)).drew := ⟨_, rfl⟩
          rw [← hW1] at hT1 hbW ⊢
          have hTl := lt_of hT1
          clear hW1 g1 g2 g3 g4 e1 e2 hlk hd0
          have hT2 := keep hT1 (old W1 (.cells #[Value.string ⟨#[97]⟩, .string ⟨#[98]⟩, .string ⟨#[99]⟩, .string ⟨#[208, 180, 208, 190, 208, 188]⟩] 9))
          have HA : Hid (∀ j, j < 4 → ∀ W, But (wa.heap.size + 1) (W1.alloc (.cells #[Value.string ⟨#[97]⟩, .string ⟨#[98]⟩, .string ⟨#[99]⟩, .string ⟨#[208, 180, 208, 190, 208, 188]⟩] 9)) W → W.cell? ⟨W1.heap.size, j, none⟩ = some (.string (valAt j))) := Lib.hid fun j hj W h => (h.cell (a := ⟨W1.heap.size, j, none⟩) (lt_of (fresh W1 _)) (by show W1.heap.size ≠ (wa.heap.size + 1); omega)).trans (cell_at (fresh W1 _) (vals_at j hj))
          have HT2 := Lib.hid hT2
          clear hT1 hT2
          go_wp2_with fail
          go_loopw [7] (fun i wr => ∃ (j : Nat) (vv : Value), j ≤ 4 ∧ i = .int .i64 j ∧ wr.heap[(wa.heap.size + 1)]? = some (.cells #[.string K, .bool n, vv] 51) ∧ wr.ownsRow (W1.heap.size + 1) 9 1 vv (valsTo c.toNat j).length (svals (valsTo c.toNat j)) ∧ But (wa.heap.size + 1) (W1.alloc (.cells #[Value.string ⟨#[97]⟩, .string ⟨#[98]⟩, .string ⟨#[99]⟩, .string ⟨#[208, 180, 208, 190, 208, 188]⟩] 9)) wr) (fun i _ => 4 - (intOf i).toNat)
          case atStart => exact ⟨0, _, by omega, rfl, HT2.out, World.ownsRow_nil _ _ _ _, But.refl _ _⟩
          case round =>
            obtain ⟨j, vv, hj4, rfl, hT, hvo, hbq⟩ := hrel
            have hbb : wr.cell? ⟨b, off + k, none⟩ = some (.int .u8 (c.toNat : Int)) := (hbq.cell (a := ⟨b, off + k, none⟩) (by show b < _; rw [size_alloc]; have := hbW.size; omega) (by show b ≠ _; omega)).trans (HCL.out _ (grows hbW (old _ _)))
            have hvf : ∃ va vn vc, vv = .slice va vn vc := by
              rcases hvo.2 with ⟨h, _⟩ | ⟨g, cap, cur, h, _⟩
              · exact ⟨_, _, _, h⟩
              · exact ⟨_, _, _, h⟩
            obtain ⟨va, vn, vc, rfl⟩ := hvf
            have HVO := Lib.hid hvo
            have HTq := Lib.hid hT
            obtain ⟨c0, c1, c2, f0, f1, f2⟩ := cells3 hT
            have hTlr := lt_of hT
            have hW0 := size_alloc W1 (.cells #[Value.string ⟨#[97]⟩, .string ⟨#[98]⟩, .string ⟨#[99]⟩, .string ⟨#[208, 180, 208, 190, 208, 188]⟩] 9)
            have hbqs := hbq.size
            rw [hW0] at hbqs
            by_cases hjl : j < 4
            · have hjz : (j : Int) < 4 := by omega
              have hj0 : (0 : Int) ≤ (j : Int) := by omega
              obtain ⟨q, hq⟩ : ∃ q, q = decide (c.toNat / 2 ^ (4 + j) % 2 = 1) := ⟨_, rfl⟩
              have hcast : ((c.toNat : Int) / 2 ^ (4 + j)) = ((c.toNat / 2 ^ (4 + j) : Nat) : Int) := by push_cast; rfl
              have hbit : ((((c.toNat : Int) / 2 ^ (4 + j)).tmod 2) == 1) = q := by
                rw [hq, hcast]
                generalize c.toNat / 2 ^ (4 + j) = x
                rw [Int.tmod_eq_emod_of_nonneg (Int.natCast_nonneg _), Bool.eq_iff_iff, beq_iff_eq, decide_eq_true_eq]
                omega
              have HQ := Lib.hid hq
              have hce := HA.out j hjl wr hbq
              clear hq hcast hvo hT
              cases q with
              | false =>
                have HN : Hid (valsTo c.toNat (j + 1) = valsTo c.toNat j) := Lib.hid (by
                  rw [valsTo, if_neg]
                  exact of_decide_eq_false HQ.out.symm)
                go_wp2
                go_roundw
                case rel => exact ⟨j + 1, _, by omega, by go_num, HTq.out, by rw [HN.out]; exact HVO.out, hbq⟩
                case measure => simp [intOf]; omega
              | true =>
                have HN : Hid (valsTo c.toNat (j + 1) = valsTo c.toNat j ++ [valAt j]) := Lib.hid (by
                  rw [valsTo, if_pos]
                  exact of_decide_eq_true HQ.out.symm)
                obtain ⟨V, hV⟩ : ∃ V, V = valAt j := ⟨_, rfl⟩
                rw [← hV] at hce HN
                have HLen := Lib.hid (valsTo_len c.toNat j)
                have HMax : Hid ((valsTo c.toNat j).length + 1 ≤ maxLen ∧ ((valsTo c.toNat j).length + 1) * 16 ≤ 140737488355328) := Lib.hid (by have := HLen.out; unfold maxLen; omega)
                have hd0 : Below wr.heap.size wr wr.drew := (Below.refl _ _).drew
                have k1 := cell_at (i := 2) (keep HTq.out (old wr (.cells #[.string V] 9))) rfl
                have k2 := frozen_at (i := 2) (keep HTq.out (old wr (.cells #[.string V] 9)))
                have HKeep4 : Hid (∀ W', (wr.drew.alloc (.cells #[.string V] 9)).grownBy W' (Value.slice va vn vc).ownBlock → W'.heap[(wa.heap.size + 1)]? = some (.cells #[.string K, .bool n, .slice va vn vc] 51)) := Lib.hid fun W' hg => after (w := wr.drew) HTq.out hg (fun e => by have := HVO.out.lt _ e; omega)
                clear hV
                go_wp2_with fail
                go_region_law (first
                  | (refine step_append_lies _ rfl _ _ 49 rfl (W1.heap.size + 1) 9 j0 (.string ByteArray.empty) 1 16 Tryd.underlying49 hj hy0 hy1 hy2 rfl (by decide) (.slice va vn vc) (valsTo c.toNat j).length (svals (valsTo c.toNat j)) rfl (own_below HVO.out (grows hd0 (old wr.drew (.cells #[.string V] 9)))) ⟨wr.heap.size, 0, none⟩ 1 1 [.string V] rfl rfl (cell_one_new wr.drew _ _) (fun u hu => by simp at hu; subst hu; rfl) (by decide) HMax.out.1 HMax.out.2 (by show _ ≤ (World.alloc wr _).heap.size; rw [size_alloc]; omega) (wr.heap.size + 1) (size_alloc wr.drew _) ?_; intro g5 cap5 w5 hown5 hgrow5 _ _; have HOwn5 := Lib.hid hown5; have HGrow5 := Lib.hid hgrow5; have HT5 := Lib.hid (HKeep4.out w5 hgrow5); have e5 := cell_at (i := 2) HT5.out rfl; have f5 := frozen_at (i := 2) HT5.out; clear hown5 hgrow5))
                all_goals
                  go_wp2
                  go_roundw
                  case rel =>
                    refine ⟨j + 1, _, by omega, by go_num, heap_setCell_same _ _ 2 _ _ _ HT5.out, ?_, ?_⟩
                    · rw [HN.out, svals_snoc, List.length_append]
                      exact ownsRow_setCell_below HOwn5.out (by simp; omega) _
                    · exact (hbq.more ((((Below.refl _ wr).drew).alloc (by rw [hW0]; exact hbqs) _).grown HGrow5.out (by have h1 := size_alloc wr.drew (.cells #[.string V] 9); rw [hW0, h1]; show _ ≤ wr.heap.size + 1; omega) (fun g hg => by have := HVO.out.lt g hg; rw [hW0]; omega))).set 2 _
                  case measure => simp [intOf]; omega
            · obtain rfl : j = 4 := by omega
              have hbA : Below wa.heap.size wa wr := (grows hbW (old W1 (.cells #[Value.string ⟨#[97]⟩, .string ⟨#[98]⟩, .string ⟨#[99]⟩, .string ⟨#[208, 180, 208, 190, 208, 188]⟩] 9))).trans (hbq.below (by omega) (by rw [hW0]; have := hbW.size; omega))
              have HSN : Hid (SNew wa.heap.size wr (.slice va (valsTo c.toNat 4).length vc) (valsTo c.toNat 4) ∧ vn = (valsTo c.toNat 4).length) := Lib.hid (by
                have hsr : SRow wr (.slice va vn vc) (valsTo c.toNat 4) := own_srow (T := 9) hvo
                have hvn : vn = (valsTo c.toNat 4).length := by
                  obtain ⟨a, cap, e, _⟩ := hsr.slice
                  injection e
                refine ⟨⟨by rw [← hvn]; exact hsr, fun g o n c e hn => ?_⟩, hvn⟩
                cases va with
                | none => cases e
                | some a =>
                  injection e with e1 _ _
                  injection e1 with e1
                  subst e1
                  have := (HVO.out.lt g rfl).1
                  have := hbW.size
                  omega)
              obtain ⟨hsn, rfl⟩ := HSN.out
              have HSN2 := Lib.hid hsn
              have HOwA := Lib.hid (own_below HOw.out hbA)
              have HMax : Hid (xs.length + 1 ≤ maxLen ∧ (xs.length + 1) * 48 ≤ 140737488355328 ∧ w.heap.size ≤ wr.heap.size + 1) := Lib.hid (by have := HXL.out; have := hb.size; have := hbA.size; unfold maxLen; omega)
              clear hvo hT hsn HSN
              go_wp2_with (at_builtin; refine wpList_append_lies _ rfl _ _ 22 rfl w.heap.size 51 i0 (.agg #[.string ByteArray.empty, .bool false, .slice none 0 0]) 3 48 Tryd.underlying22 hi hz0 hz1 hz2 rfl (by decide) u3 xs.length (tvals xs) rfl (own_below HOwA.out (old wr _)) ⟨wr.heap.size, 0, none⟩ 1 1 [.string K, .bool n, .slice va (valsTo c.toNat 4).length vc] rfl rfl (new3 wr _ _ _ _) (one3 _ _ _ _ _) (by decide) HMax.out.1 HMax.out.2.1 (by rw [size_alloc]; exact HMax.out.2.2) (wr.heap.size + 1) (size_alloc _ _) ?_)
              intro g4 cap4 w4 hown4 hgrow4 hat4 _
              have HIn4 := Lib.hid (grow_terms (t := (K, n, valsTo c.toNat 4)) (cap := cap4) HOw.out HIn.out hb.size hbA HSN2.out hgrow4 hat4)
              have HOwn4 := Lib.hid hown4
              have hbF : Below w.heap.size w w4 := (((hb.trans (hbA.mono hb.size)).alloc (by have := hb.size; have := hbA.size; omega) _).grown hgrow4 (by rw [size_alloc]; have := hb.size; have := hbA.size; omega) (fun g hg => (HOw.out.lt g hg).1))
              clear hown4 hgrow4 hat4
              go_wp2
              go_roundw
              case rel =>
                refine ⟨k + 1, xs ++ [((K, n, valsTo c.toNat 4), .slice va (valsTo c.toNat 4).length vc)], by omega, by omega, by go_num, by rw [List.length_append, HXL.out]; rfl, ?_, ?_, HIn4.out, hbF⟩
                · rw [List.map_append, HXM.out, List.take_add_one, List.getElem?_eq_getElem hlt, List.map_append, Option.toList_some, List.map_cons, List.map_nil, List.map_cons, List.map_nil, ← HCB.out, HK.out, HME.out, HNE.out]
                  rfl
                · rw [List.length_append, tvals_snoc]
                  exact HOwn4.out
              case measure => simp [intOf]; omega

        · have hT1 : (((wa.alloc (.cells #[.string K, .bool n, .slice none 0 0] 51)).alloc (.cells #[Value.string ⟨#[97]⟩, .string ⟨#[100, 105, 115, 107]⟩, .string ⟨#[122, 111, 110, 101]⟩, .string ⟨#[206, 177, 206, 178]⟩] 9)).drew).heap[wa.heap.size]? = some (.cells #[.string K, .bool n, .slice none 0 0] 51) := keep (w' := (wa.alloc (.cells #[.string K, .bool n, .slice none 0 0] 51)).alloc (.cells #[Value.string ⟨#[97]⟩, .string ⟨#[100, 105, 115, 107]⟩, .string ⟨#[122, 111, 110, 101]⟩, .string ⟨#[206, 177, 206, 178]⟩] 9)) (fresh wa (.cells #[.string K, .bool n, .slice none 0 0] 51)) (old _ (.cells #[Value.string ⟨#[97]⟩, .string ⟨#[100, 105, 115, 107]⟩, .string ⟨#[122, 111, 110, 101]⟩, .string ⟨#[206, 177, 206, 178]⟩] 9))
          have hbW : Below wa.heap.size wa (((wa.alloc (.cells #[.string K, .bool n, .slice none 0 0] 51)).alloc (.cells #[Value.string ⟨#[97]⟩, .string ⟨#[100, 105, 115, 107]⟩, .string ⟨#[122, 111, 110, 101]⟩, .string ⟨#[206, 177, 206, 178]⟩] 9)).drew) := (grows (grew wa _) (grew _ _)).drew
          obtain ⟨W1, hW1⟩ : ∃ W, W = ((wa.alloc (.cells #[.string K, .bool n, .slice none 0 0] 51)).alloc (.cells #[Value.string ⟨#[97]⟩, .string ⟨#[100, 105, 115, 107]⟩, .string ⟨#[122, 111, 110, 101]⟩, .string ⟨#[206, 177, 206, 178]⟩] 9)).drew := ⟨_, rfl⟩
          rw [← hW1] at hT1 hbW ⊢
          have hTl := lt_of hT1
          clear hW1 g1 g2 g3 g4 e1 e2 hlk hd0
          have hT2 := keep hT1 (old W1 (.cells #[Value.string ⟨#[97]⟩, .string ⟨#[98]⟩, .string ⟨#[99]⟩, .string ⟨#[208, 180, 208, 190, 208, 188]⟩] 9))
          have HA : Hid (∀ j, j < 4 → ∀ W, But wa.heap.size (W1.alloc (.cells #[Value.string ⟨#[97]⟩, .string ⟨#[98]⟩, .string ⟨#[99]⟩, .string ⟨#[208, 180, 208, 190, 208, 188]⟩] 9)) W → W.cell? ⟨W1.heap.size, j, none⟩ = some (.string (valAt j))) := Lib.hid fun j hj W h => (h.cell (a := ⟨W1.heap.size, j, none⟩) (lt_of (fresh W1 _)) (by show W1.heap.size ≠ wa.heap.size; omega)).trans (cell_at (fresh W1 _) (vals_at j hj))
          have HT2 := Lib.hid hT2
          clear hT1 hT2
          go_wp2_with fail
          go_loopw [7] (fun i wr => ∃ (j : Nat) (vv : Value), j ≤ 4 ∧ i = .int .i64 j ∧ wr.heap[wa.heap.size]? = some (.cells #[.string K, .bool n, vv] 51) ∧ wr.ownsRow (W1.heap.size + 1) 9 1 vv (valsTo c.toNat j).length (svals (valsTo c.toNat j)) ∧ But wa.heap.size (W1.alloc (.cells #[Value.string ⟨#[97]⟩, .string ⟨#[98]⟩, .string ⟨#[99]⟩, .string ⟨#[208, 180, 208, 190, 208, 188]⟩] 9)) wr) (fun i _ => 4 - (intOf i).toNat)
          case atStart => exact ⟨0, _, by omega, rfl, HT2.out, World.ownsRow_nil _ _ _ _, But.refl _ _⟩
          case round =>
            obtain ⟨j, vv, hj4, rfl, hT, hvo, hbq⟩ := hrel
            have hbb : wr.cell? ⟨b, off + k, none⟩ = some (.int .u8 (c.toNat : Int)) := (hbq.cell (a := ⟨b, off + k, none⟩) (by show b < _; rw [size_alloc]; have := hbW.size; omega) (by show b ≠ _; omega)).trans (HCL.out _ (grows hbW (old _ _)))
            have hvf : ∃ va vn vc, vv = .slice va vn vc := by
              rcases hvo.2 with ⟨h, _⟩ | ⟨g, cap, cur, h, _⟩
              · exact ⟨_, _, _, h⟩
              · exact ⟨_, _, _, h⟩
            obtain ⟨va, vn, vc, rfl⟩ := hvf
            have HVO := Lib.hid hvo
            have HTq := Lib.hid hT
            obtain ⟨c0, c1, c2, f0, f1, f2⟩ := cells3 hT
            have hTlr := lt_of hT
            have hW0 := size_alloc W1 (.cells #[Value.string ⟨#[97]⟩, .string ⟨#[98]⟩, .string ⟨#[99]⟩, .string ⟨#[208, 180, 208, 190, 208, 188]⟩] 9)
            have hbqs := hbq.size
            rw [hW0] at hbqs
            by_cases hjl : j < 4
            · have hjz : (j : Int) < 4 := by omega
              have hj0 : (0 : Int) ≤ (j : Int) := by omega
              obtain ⟨q, hq⟩ : ∃ q, q = decide (c.toNat / 2 ^ (4 + j) % 2 = 1) := ⟨_, rfl⟩
              have hcast : ((c.toNat : Int) / 2 ^ (4 + j)) = ((c.toNat / 2 ^ (4 + j) : Nat) : Int) := by push_cast; rfl
              have hbit : ((((c.toNat : Int) / 2 ^ (4 + j)).tmod 2) == 1) = q := by
                rw [hq, hcast]
                generalize c.toNat / 2 ^ (4 + j) = x
                rw [Int.tmod_eq_emod_of_nonneg (Int.natCast_nonneg _), Bool.eq_iff_iff, beq_iff_eq, decide_eq_true_eq]
                omega
              have HQ := Lib.hid hq
              have hce := HA.out j hjl wr hbq
              clear hq hcast hvo hT
              cases q with
              | false =>
                have HN : Hid (valsTo c.toNat (j + 1) = valsTo c.toNat j) := Lib.hid (by
                  rw [valsTo, if_neg]
                  exact of_decide_eq_false HQ.out.symm)
                go_wp2
                go_roundw
                case rel => exact ⟨j + 1, _, by omega, by go_num, HTq.out, by rw [HN.out]; exact HVO.out, hbq⟩
                case measure => simp [intOf]; omega
              | true =>
                have HN : Hid (valsTo c.toNat (j + 1) = valsTo c.toNat j ++ [valAt j]) := Lib.hid (by
                  rw [valsTo, if_pos]
                  exact of_decide_eq_true HQ.out.symm)
                obtain ⟨V, hV⟩ : ∃ V, V = valAt j := ⟨_, rfl⟩
                rw [← hV] at hce HN
                have HLen := Lib.hid (valsTo_len c.toNat j)
                have HMax : Hid ((valsTo c.toNat j).length + 1 ≤ maxLen ∧ ((valsTo c.toNat j).length + 1) * 16 ≤ 140737488355328) := Lib.hid (by have := HLen.out; unfold maxLen; omega)
                have hd0 : Below wr.heap.size wr wr.drew := (Below.refl _ _).drew
                have k1 := cell_at (i := 2) (keep HTq.out (old wr (.cells #[.string V] 9))) rfl
                have k2 := frozen_at (i := 2) (keep HTq.out (old wr (.cells #[.string V] 9)))
                have HKeep4 : Hid (∀ W', (wr.drew.alloc (.cells #[.string V] 9)).grownBy W' (Value.slice va vn vc).ownBlock → W'.heap[wa.heap.size]? = some (.cells #[.string K, .bool n, .slice va vn vc] 51)) := Lib.hid fun W' hg => after (w := wr.drew) HTq.out hg (fun e => by have := HVO.out.lt _ e; omega)
                clear hV
                go_wp2_with fail
                go_region_law (first
                  | (refine step_append_lies _ rfl _ _ 49 rfl (W1.heap.size + 1) 9 j0 (.string ByteArray.empty) 1 16 Tryd.underlying49 hj hy0 hy1 hy2 rfl (by decide) (.slice va vn vc) (valsTo c.toNat j).length (svals (valsTo c.toNat j)) rfl (own_below HVO.out (grows hd0 (old wr.drew (.cells #[.string V] 9)))) ⟨wr.heap.size, 0, none⟩ 1 1 [.string V] rfl rfl (cell_one_new wr.drew _ _) (fun u hu => by simp at hu; subst hu; rfl) (by decide) HMax.out.1 HMax.out.2 (by show _ ≤ (World.alloc wr _).heap.size; rw [size_alloc]; omega) (wr.heap.size + 1) (size_alloc wr.drew _) ?_; intro g5 cap5 w5 hown5 hgrow5 _ _; have HOwn5 := Lib.hid hown5; have HGrow5 := Lib.hid hgrow5; have HT5 := Lib.hid (HKeep4.out w5 hgrow5); have e5 := cell_at (i := 2) HT5.out rfl; have f5 := frozen_at (i := 2) HT5.out; clear hown5 hgrow5))
                all_goals
                  go_wp2
                  go_roundw
                  case rel =>
                    refine ⟨j + 1, _, by omega, by go_num, heap_setCell_same _ _ 2 _ _ _ HT5.out, ?_, ?_⟩
                    · rw [HN.out, svals_snoc, List.length_append]
                      exact ownsRow_setCell_below HOwn5.out (by simp; omega) _
                    · exact (hbq.more ((((Below.refl _ wr).drew).alloc (by rw [hW0]; exact hbqs) _).grown HGrow5.out (by have h1 := size_alloc wr.drew (.cells #[.string V] 9); rw [hW0, h1]; show _ ≤ wr.heap.size + 1; omega) (fun g hg => by have := HVO.out.lt g hg; rw [hW0]; omega))).set 2 _
                  case measure => simp [intOf]; omega
            · obtain rfl : j = 4 := by omega
              have hbA : Below wa.heap.size wa wr := (grows hbW (old W1 (.cells #[Value.string ⟨#[97]⟩, .string ⟨#[98]⟩, .string ⟨#[99]⟩, .string ⟨#[208, 180, 208, 190, 208, 188]⟩] 9))).trans (hbq.below (by omega) (by rw [hW0]; have := hbW.size; omega))
              have HSN : Hid (SNew wa.heap.size wr (.slice va (valsTo c.toNat 4).length vc) (valsTo c.toNat 4) ∧ vn = (valsTo c.toNat 4).length) := Lib.hid (by
                have hsr : SRow wr (.slice va vn vc) (valsTo c.toNat 4) := own_srow (T := 9) hvo
                have hvn : vn = (valsTo c.toNat 4).length := by
                  obtain ⟨a, cap, e, _⟩ := hsr.slice
                  injection e
                refine ⟨⟨by rw [← hvn]; exact hsr, fun g o n c e hn => ?_⟩, hvn⟩
                cases va with
                | none => cases e
                | some a =>
                  injection e with e1 _ _
                  injection e1 with e1
                  subst e1
                  have := (HVO.out.lt g rfl).1
                  have := hbW.size
                  omega)
              obtain ⟨hsn, rfl⟩ := HSN.out
              have HSN2 := Lib.hid hsn
              have HOwA := Lib.hid (own_below HOw.out hbA)
              have HMax : Hid (xs.length + 1 ≤ maxLen ∧ (xs.length + 1) * 48 ≤ 140737488355328 ∧ w.heap.size ≤ wr.heap.size + 1) := Lib.hid (by have := HXL.out; have := hb.size; have := hbA.size; unfold maxLen; omega)
              clear hvo hT hsn HSN
              go_wp2_with (at_builtin; refine wpList_append_lies _ rfl _ _ 22 rfl w.heap.size 51 i0 (.agg #[.string ByteArray.empty, .bool false, .slice none 0 0]) 3 48 Tryd.underlying22 hi hz0 hz1 hz2 rfl (by decide) u3 xs.length (tvals xs) rfl (own_below HOwA.out (old wr _)) ⟨wr.heap.size, 0, none⟩ 1 1 [.string K, .bool n, .slice va (valsTo c.toNat 4).length vc] rfl rfl (new3 wr _ _ _ _) (one3 _ _ _ _ _) (by decide) HMax.out.1 HMax.out.2.1 (by rw [size_alloc]; exact HMax.out.2.2) (wr.heap.size + 1) (size_alloc _ _) ?_)
              intro g4 cap4 w4 hown4 hgrow4 hat4 _
              have HIn4 := Lib.hid (grow_terms (t := (K, n, valsTo c.toNat 4)) (cap := cap4) HOw.out HIn.out hb.size hbA HSN2.out hgrow4 hat4)
              have HOwn4 := Lib.hid hown4
              have hbF : Below w.heap.size w w4 := (((hb.trans (hbA.mono hb.size)).alloc (by have := hb.size; have := hbA.size; omega) _).grown hgrow4 (by rw [size_alloc]; have := hb.size; have := hbA.size; omega) (fun g hg => (HOw.out.lt g hg).1))
              clear hown4 hgrow4 hat4
              go_wp2
              go_roundw
              case rel =>
                refine ⟨k + 1, xs ++ [((K, n, valsTo c.toNat 4), .slice va (valsTo c.toNat 4).length vc)], by omega, by omega, by go_num, by rw [List.length_append, HXL.out]; rfl, ?_, ?_, HIn4.out, hbF⟩
                · rw [List.map_append, HXM.out, List.take_add_one, List.getElem?_eq_getElem hlt, List.map_append, Option.toList_some, List.map_cons, List.map_nil, List.map_cons, List.map_nil, ← HCB.out, HK.out, HME.out, HNE.out]
                  rfl
                · rw [List.length_append, tvals_snoc]
                  exact HOwn4.out
              case measure => simp [intOf]; omega
      · obtain rfl : k = 4 := by omega
        have HR : Hid (TRow wa u3 (madeS bs)) := Lib.hid (by
          have := own_trow HOw.out (fun x hx => (HIn.out x hx).1)
          rw [HXM.out] at this
          exact this)
        go_wp2
        go_ret
        exact ⟨⟨_, rfl, HR.out⟩, hb⟩
    · obtain rfl : k = bs.length := by omega
      have HR : Hid (TRow wa u3 (madeS bs)) := Lib.hid (by
        have := own_trow HOw.out (fun x hx => (HIn.out x hx).1)
        rw [HXM.out, List.take_length] at this
        unfold madeS
        rw [List.take_of_length_le (by omega)]
        exact this)
      go_wp2
      go_ret
      exact ⟨⟨_, rfl, HR.out⟩, hb⟩
end Go.Proofs.YtcgknkbigbbfdaaDoor.Sel
