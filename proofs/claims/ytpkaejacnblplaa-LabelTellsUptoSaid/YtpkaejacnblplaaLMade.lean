/- What the statements' own made answers, for every slice of bytes: labels that are right; of memory that was there nothing turns. -/
import Derived.Test.YtpkaejacnblplaaLSame
import Derived.Test.YtpkaejacnblplaaArgs
import Derived.Deep.RegionHeld3
import Derived.Deep.AppendLies
namespace Go.Proofs.Ytpkaejacnblplaa.Label
open Go.RowKit Go.Proofs.Ytpkaejacnblplaa.Word Go.Proofs.Ytpkaejacnblplaa.Args

/-- The eight keys. -/
def keyAt : Nat → ByteArray
  | 0 => ⟨#[97]⟩
  | 1 => ⟨#[97, 98]⟩
  | 2 => ⟨#[98]⟩
  | 3 => ⟨#[99, 45, 49]⟩
  | 4 => ⟨#[100, 105, 115, 107]⟩
  | 5 => ⟨#[122, 111, 110, 101]⟩
  | 6 => ⟨#[206, 177, 206, 178]⟩
  | _ => ⟨#[208, 180, 208, 190, 208, 188]⟩
def oneMade (k c : Nat) : List Pr := if 0 < c % 3 then [(keyAt k, keyAt (c / 3 % 8))] else []
/-- Labels of the first so many bytes. -/
def madeTo (bs : List UInt8) : Nat → List Pr
  | 0 => []
  | k + 1 => madeTo bs k ++ oneMade k (bs.getD k 0).toNat
def madeL (bs : List UInt8) : List Pr := madeTo bs (min bs.length 8)

theorem key_right : ∀ k, right (keyAt k).data.toList = true
  | 0 => by decide +kernel
  | 1 => by decide +kernel
  | 2 => by decide +kernel
  | 3 => by decide +kernel
  | 4 => by decide +kernel
  | 5 => by decide +kernel
  | 6 => by decide +kernel
  | n + 7 => by show right (⟨#[208, 180, 208, 190, 208, 188]⟩ : ByteArray).data.toList = true; decide +kernel
theorem key_less : ∀ k, k < 8 → ∀ i, i < k → less (keyAt i) (keyAt k) = true := by
  have h : ∀ k, k < 8 → ∀ i, i < k → Op.bytesLess (keyAt i).data.toList (keyAt k).data.toList = true := by decide +kernel
  intro k hk i hi
  rw [less_data]
  exact h k hk i hi
theorem made_len (bs : List UInt8) : ∀ k, (madeTo bs k).length ≤ k
  | 0 => Nat.le_refl _
  | k + 1 => by
    have := made_len bs k
    unfold madeTo oneMade
    split <;> simp <;> omega
theorem made_mem (bs : List UInt8) : ∀ k x, x ∈ madeTo bs k → (∃ i, i < k ∧ x.1 = keyAt i) ∧ lacks x = false
  | 0, x, h => by simp [madeTo] at h
  | k + 1, x, h => by
    unfold madeTo at h
    rw [List.mem_append] at h
    rcases h with h | h
    · obtain ⟨⟨i, hi, e⟩, hl⟩ := made_mem bs k x h
      exact ⟨⟨i, by omega, e⟩, hl⟩
    · unfold oneMade at h
      split at h
      · rw [List.mem_singleton] at h
        subst h
        exact ⟨⟨k, by omega, rfl⟩, by unfold lacks; rw [key_right, key_right]; rfl⟩
      · simp at h
theorem made_pair (bs : List UInt8) : ∀ k, k ≤ 8 → (madeTo bs k).Pairwise fun x y => less x.1 y.1 = true
  | 0, _ => List.Pairwise.nil
  | k + 1, hk => by
    unfold madeTo
    rw [List.pairwise_append]
    refine ⟨made_pair bs k (by omega), ?_, fun x hx y hy => ?_⟩
    · unfold oneMade
      split <;> simp
    · unfold oneMade at hy
      split at hy
      · rw [List.mem_singleton] at hy
        subst hy
        obtain ⟨⟨i, hi, e⟩, _⟩ := made_mem bs k x hx
        rw [e]
        exact key_less k (by omega) i hi
      · simp at hy
theorem rises_of_pair {ls : List Pr} (h : ls.Pairwise fun x y => less x.1 y.1 = true) : Rises ls := fun j x y hx hy => by
  obtain ⟨h1, rfl⟩ := List.getElem?_eq_some_iff.1 hx
  obtain ⟨h2, rfl⟩ := List.getElem?_eq_some_iff.1 hy
  exact List.pairwise_iff_getElem.1 h j (j + 1) h1 h2 (by omega)
/-- What is made is right. -/
theorem made_right (bs : List UInt8) : rightL (madeL bs) = true := by
  unfold rightL
  rw [Bool.and_eq_true, Bool.and_eq_true, decide_eq_true_eq, Bool.not_eq_true', risesB_iff]
  refine ⟨?_, ?_, rises_of_pair (made_pair bs _ (by omega))⟩
  · have := made_len bs (min bs.length 8)
    unfold madeL
    omega
  · rw [List.any_eq_false]
    intro x hx
    rw [(made_mem bs _ x hx).2]
    simp

theorem table_cell (j : Nat) (hj : j < 8) : (#[Value.string ⟨#[97]⟩, .string ⟨#[97, 98]⟩, .string ⟨#[98]⟩, .string ⟨#[99, 45, 49]⟩, .string ⟨#[100, 105, 115, 107]⟩, .string ⟨#[122, 111, 110, 101]⟩, .string ⟨#[206, 177, 206, 178]⟩, .string ⟨#[208, 180, 208, 190, 208, 188]⟩] : Array Value)[j]? = some (.string (keyAt j)) := by
  match j, hj with
  | 0, _ => rfl
  | 1, _ => rfl
  | 2, _ => rfl
  | 3, _ => rfl
  | 4, _ => rfl
  | 5, _ => rfl
  | 6, _ => rfl
  | 7, _ => rfl

set_option maxRecDepth 100000 in
set_option maxHeartbeats 4000000 in
theorem made_any (v : Value) (bs : List UInt8) (w : World) (hv : Bytes w v bs) :
    Calls Try.prog 24 #[v] w fun e w' => (∃ u, e = .returned u ∧ Row w' u (madeL bs)) ∧ Below w.heap.size w w' := by
  obtain ⟨i0, hi, hz0, hz1, hz2⟩ := info_parts infoP
  obtain ⟨o, cap, rfl, hm, hcell⟩ := hv
  have HC := Lib.hid hcell
  unfold maxLen at hm
  clear hcell
  have HTab : Hid (∀ j, j < 8 → (w.alloc (.cells #[Value.string ⟨#[97]⟩, .string ⟨#[97, 98]⟩, .string ⟨#[98]⟩, .string ⟨#[99, 45, 49]⟩, .string ⟨#[100, 105, 115, 107]⟩, .string ⟨#[122, 111, 110, 101]⟩, .string ⟨#[206, 177, 206, 178]⟩, .string ⟨#[208, 180, 208, 190, 208, 188]⟩] 9)).cell? ⟨w.heap.size, j, none⟩ = some (.string (keyAt j))) :=
    Lib.hid (fun j hj => by
      have hg : ∀ c : Array Value, (w.alloc (.cells c 9)).heap[w.heap.size]? = some (.cells c 9) := fun c => by
        show (w.heap.push _)[w.heap.size]? = _
        simp
      simp only [World.cell?, hg, table_cell j hj]
      rfl)
  have HB1 : Hid (∀ x, Below w.heap.size w (w.alloc x)) := Lib.hid fun x => (Below.refl _ _).alloc (Nat.le_refl _) _
  go_enter Try.func24, Try.ntmps24
  go_wp2
  have HB2 := Lib.hid (HB1.out (.cells #[Value.string ⟨#[97]⟩, .string ⟨#[97, 98]⟩, .string ⟨#[98]⟩, .string ⟨#[99, 45, 49]⟩, .string ⟨#[100, 105, 115, 107]⟩, .string ⟨#[122, 111, 110, 101]⟩, .string ⟨#[206, 177, 206, 178]⟩, .string ⟨#[208, 180, 208, 190, 208, 188]⟩] 9))
  obtain ⟨w1, hw1⟩ : ∃ w1, w1 = (w.alloc (.cells #[Value.string ⟨#[97]⟩, .string ⟨#[97, 98]⟩, .string ⟨#[98]⟩, .string ⟨#[99, 45, 49]⟩, .string ⟨#[100, 105, 115, 107]⟩, .string ⟨#[122, 111, 110, 101]⟩, .string ⟨#[206, 177, 206, 178]⟩, .string ⟨#[208, 180, 208, 190, 208, 188]⟩] 9)) := ⟨_, rfl⟩
  have HS : Hid (w1.heap.size = w.heap.size + 1) := Lib.hid (by rw [hw1]; simp)
  rw [← hw1] at HTab HB2 ⊢
  clear hw1 HB1
  go_loopw [3, 5] (fun t i wr => ∃ k : Nat, k ≤ bs.length ∧ k ≤ 8 ∧ i = .int .i64 k ∧ wr.ownsRow w1.heap.size 48 2 t (madeTo bs k).length ((madeTo bs k).flatMap enc) ∧ Below w1.heap.size w1 wr) (fun _ i _ => 8 - (intOf i).toNat)
  case atStart => exact ⟨0, Nat.zero_le _, by omega, rfl, World.ownsRow_nil _ _ _ _, Below.refl _ _⟩
  case round =>
    obtain ⟨k, hk, hk8, rfl, hown, hb⟩ := hrel
    have HO := Lib.hid hown
    clear hown
    by_cases hlt : k < bs.length
    · by_cases h8 : k < 8
      · obtain ⟨b, off, rfl, hbl, hc⟩ := HC.out (by intro h; rw [h] at hlt; simp at hlt)
        obtain ⟨c, hcb⟩ : ∃ c, c = bs[k] := ⟨_, rfl⟩
        have hbl1 : b < w1.heap.size := by have := HS.out; omega
        have hcl : wr.cell? ⟨b, off + k, none⟩ = some (.int .u8 (c.toNat : Int)) := by rw [hb.cell hbl1, HB2.out.cell hbl, hc k hlt, hcb]
        have hwl : w.heap.size < w1.heap.size := by have := HS.out; omega
        have ht1 : wr.cell? ⟨w.heap.size, k, none⟩ = some (.string (keyAt k)) := by rw [hb.cell (p := ⟨w.heap.size, k, none⟩) hwl]; exact HTab.out k h8
        have ht2 : wr.cell? ⟨w.heap.size, c.toNat / 3 % 8, none⟩ = some (.string (keyAt (c.toNat / 3 % 8))) := by rw [hb.cell (p := ⟨w.heap.size, _, none⟩) hwl]; exact HTab.out _ (Nat.mod_lt _ (by decide))
        have hc255 : c.toNat ≤ 255 := by have := c.toNat_lt; omega
        have HN : Hid (madeTo bs (k + 1) = madeTo bs k ++ oneMade k c.toNat) := Lib.hid (by
          show madeTo bs k ++ oneMade k (bs.getD k 0).toNat = _
          rw [List.getD_eq_getElem?_getD, List.getElem?_eq_getElem hlt, ← hcb]; rfl)
        have HLn := Lib.hid (made_len bs k)
        clear hc hcb
        by_cases h3 : 0 < c.toNat % 3
        · have HN1 : Hid (madeTo bs (k + 1) = madeTo bs k ++ [(keyAt k, keyAt (c.toNat / 3 % 8))]) := Lib.hid (by rw [HN.out, oneMade, if_pos h3])
          obtain ⟨K1, hK1⟩ : ∃ x, x = keyAt k := ⟨_, rfl⟩
          obtain ⟨K2, hK2⟩ : ∃ x, x = keyAt (c.toNat / 3 % 8) := ⟨_, rfl⟩
          rw [← hK1] at ht1 HN1
          rw [← hK2] at ht2 HN1
          have h3z : (0 : Int) < (c.toNat : Int) % 3 := by omega
          obtain ⟨d, hd⟩ : ∃ d, d = c.toNat / 3 := ⟨_, rfl⟩
          have hwrap : IntKind.u8.wrap ((c.toNat : Int) / 3) = (d : Int) := by
            rw [IntKind.wrap_u8]; omega
          rw [← hd] at ht2
          obtain ⟨m, hm8⟩ : ∃ m, m = d % 8 := ⟨_, rfl⟩
          have htm : (d : Int).tmod 8 = (m : Int) := by rw [Int.tmod_eq_emod_of_nonneg (by omega)]; omega
          rw [← hm8] at ht2
          have hmz : (m : Int) < 8 := by omega
          have hm0 : (0 : Int) ≤ (m : Int) := by omega
          clear hK1 hK2 HN hd hm8
          go_wp2_with fail
          have hs0 : Below wr.heap.size wr wr.drew := (Below.refl _ _).drew
          have HK : Hid (∀ x, Below wr.heap.size wr x → x.cell? ⟨b, off + k, none⟩ = some (.int .u8 (c.toNat : Int)) ∧ x.cell? ⟨w.heap.size, k, none⟩ = some (.string K1) ∧ x.cell? ⟨w.heap.size, m, none⟩ = some (.string K2)) := Lib.hid fun x hx => by
            rw [hx.cell (p := ⟨b, off + k, none⟩) (World.block_lt_of_cell? wr _ hcl), hx.cell (p := ⟨w.heap.size, k, none⟩) (World.block_lt_of_cell? wr _ ht1), hx.cell (p := ⟨w.heap.size, m, none⟩) (World.block_lt_of_cell? wr _ ht2)]
            exact ⟨hcl, ht1, ht2⟩
          have HG : Hid (∀ w' w'', Below wr.heap.size wr w' → w'.grownBy w'' u3.ownBlock → w''.cell? ⟨b, off + k, none⟩ = some (.int .u8 (c.toNat : Int)) ∧ w''.cell? ⟨w.heap.size, k, none⟩ = some (.string K1) ∧ w''.cell? ⟨w.heap.size, m, none⟩ = some (.string K2)) := Lib.hid fun w' w'' h1 h2 => by
            have hs1 := HS.out
            have h3 := h1.size
            have h4 := hb.size
            have hfar : ∀ g, g < w1.heap.size → some g ≠ u3.ownBlock := fun g hg he => by have := (HO.out.lt g he.symm).1; omega
            obtain ⟨k1, k2, k3⟩ := HK.out w' h1
            rw [h2.cell_far ⟨b, off + k, none⟩ (by show b < _; omega) (hfar _ hbl1), h2.cell_far ⟨w.heap.size, k, none⟩ (by show w.heap.size < _; omega) (hfar _ hwl), h2.cell_far ⟨w.heap.size, m, none⟩ (by show w.heap.size < _; omega) (hfar _ hwl)]
            exact ⟨k1, k2, k3⟩
          have HO2 : Hid (∀ x, (wr.drew.alloc x).ownsRow w1.heap.size 48 2 u3 (madeTo bs k).length ((madeTo bs k).flatMap enc)) := Lib.hid fun x => World.ownsRow.alloc (w := wr.drew) HO.out x
          have hb2 : Below w1.heap.size w1 wr.drew := hb.drew
          have HLz : Hid ((madeTo bs k).length + 1 ≤ maxLen ∧ ((madeTo bs k).length + 1) * 32 ≤ 140737488355328 ∧ w1.heap.size ≤ wr.heap.size + 1) := Lib.hid (by have := HLn.out; have := hb.size; unfold maxLen; omega)
          clear hcl ht1 ht2
          go_region_held3 (fun x => x.cell? ⟨b, off + k, none⟩ = some (.int .u8 (c.toNat : Int)) ∧ x.cell? ⟨w.heap.size, k, none⟩ = some (.string K1) ∧ x.cell? ⟨w.heap.size, m, none⟩ = some (.string K2))
            (first | exact HK.out _ hs0 | exact HK.out _ (hs0.alloc hs0.size _) | exact HG.out _ _ (hs0.alloc hs0.size _) hgr5)
            (first | (refine step_append_lies _ rfl _ _ 22 rfl w1.heap.size 48 i0 (.agg #[.string ByteArray.empty, .string ByteArray.empty]) 2 32 Try.underlying22 hi hz0 hz1 hz2 rfl (by decide) u3 _ _ rfl (HO2.out _) ⟨wr.heap.size, 0, none⟩ 1 1 [.string K1, .string K2] rfl rfl (new_two wr.drew _ _) (fun u hu => by simp at hu; rcases hu with rfl | rfl <;> rfl) (by decide) HLz.out.1 HLz.out.2.1 (by show _ ≤ (World.alloc wr _).heap.size; rw [World.size_alloc]; exact HLz.out.2.2) _ rfl ?_; intro g5 cp5 w5 hown5 hgr5 hat5 hlt5))
          have hown4 : w5.ownsRow w1.heap.size 48 2 (.slice (some ⟨g5, 0, none⟩) ((madeTo bs k).length + 1) cp5) (madeTo bs (k + 1)).length ((madeTo bs (k + 1)).flatMap enc) := by rw [HN1.out, fm_snoc]; simpa using hown5
          have hb4 : Below w1.heap.size w1 w5 := (hb2.alloc hb2.size _).grown hgr5 (by have := hb2.size; simp at this ⊢; omega) (fun k hk => (HO.out.lt k hk).1)
          clear hown5 hgr5 hat5 hlt5
          go_wp2
          go_roundw
          case rel => exact ⟨k + 1, by omega, by omega, by go_num, hown4, hb4⟩
          case measure => simp [intOf]; omega
        · have HN1 : Hid (madeTo bs (k + 1) = madeTo bs k) := Lib.hid (by rw [HN.out, oneMade, if_neg h3, List.append_nil])
          have h3z : ¬ (0 : Int) < (c.toNat : Int) % 3 := by omega
          clear HN
          go_wp2
          go_roundw
          case rel => exact ⟨k + 1, by omega, by omega, by go_num, by rw [HN1.out]; exact HO.out, hb⟩
          case measure => simp [intOf]; omega
      · obtain rfl : k = 8 := by omega
        go_wp2
        go_ret
        have hb' := HB2.out.trans (hb.mono HB2.out.size)
        exact ⟨⟨_, rfl, by rw [madeL, Nat.min_eq_right (by omega)]; exact own_row HO.out⟩, hb'⟩
    · obtain rfl : k = bs.length := by omega
      go_wp2
      go_ret
      have hb' := HB2.out.trans (hb.mono HB2.out.size)
      exact ⟨⟨_, rfl, by rw [madeL, Nat.min_eq_left (by omega)]; exact own_row HO.out⟩, hb'⟩
end Go.Proofs.Ytpkaejacnblplaa.Label
