/- What the statements' own made answers, for every slice of bytes; of memory that was there nothing turns. -/
import Derived.Test.YtmcpeejmmhaohaaDoorWMade
import Derived.Test.YtmcpeejmmhaohaaDoorArgs
import Derived.Test.YtmcpeejmmhaohaaDoorWExamples
namespace Go.Proofs.YtmcpeejmmhaohaaDoor.Word
open Go.RowKit Go.Proofs.YtmcpeejmmhaohaaDoor.Args

theorem items_snoc (l : List UInt8) (b : UInt8) : items (l ++ [b]) = items l ++ item b.toNat := by simp [items]

theorem items_len : ∀ (l : List UInt8), (items l).length ≤ 2 * l.length
  | [] => by simp [items]
  | b :: l => by
    have := item_size b.toNat
    have := items_len l
    show (item b.toNat ++ items l).length ≤ _
    simp only [List.length_append, List.length_cons]
    omega

theorem table_cell (j : Nat) (hj : j < 14) : (#[Value.string ⟨#[97]⟩, .string ⟨#[122]⟩, .string ⟨#[109]⟩, .string ⟨#[206, 177]⟩, .string ⟨#[207, 137]⟩, .string ⟨#[207, 130]⟩, .string ⟨#[208, 176]⟩, .string ⟨#[209, 143]⟩, .string ⟨#[208, 182]⟩, .string ⟨#[107]⟩, .string ⟨#[48]⟩, .string ⟨#[57]⟩, .string ⟨#[45]⟩, .string ⟨#[53]⟩] : Array Value)[j]? = some (.string (str (table.getD j []))) := by
  match j, hj with
  | 0, _ => rfl
  | 1, _ => rfl
  | 2, _ => rfl
  | 3, _ => rfl
  | 4, _ => rfl
  | 5, _ => rfl
  | 6, _ => rfl
  | 7, _ => rfl
  | 8, _ => rfl
  | 9, _ => rfl
  | 10, _ => rfl
  | 11, _ => rfl
  | 12, _ => rfl
  | 13, _ => rfl

set_option maxRecDepth 100000 in
set_option maxHeartbeats 4000000 in
theorem made_any (v : Value) (bs : List UInt8) (w : World) (hv : Bytes w v bs) :
    Calls Tryd.prog 21 #[v] w fun e w' => e = .returned (.string (str (made bs))) ∧ Below w.heap.size w w' := by
  obtain ⟨o, cap, rfl, hm, hcell⟩ := hv
  have HC := Lib.hid hcell
  unfold maxLen at hm
  clear hcell
  have hb0 : ∀ x, Below w.heap.size w (w.alloc x) := fun x => (Below.refl _ _).alloc (Nat.le_refl _) _
  have HB := Lib.hid hb0
  clear hb0
  go_enter Tryd.func21, Tryd.ntmps21
  go_wp2
  have HTab : Hid (∀ j, j < 14 → (w.alloc (.cells #[Value.string ⟨#[97]⟩, .string ⟨#[122]⟩, .string ⟨#[109]⟩, .string ⟨#[206, 177]⟩, .string ⟨#[207, 137]⟩, .string ⟨#[207, 130]⟩, .string ⟨#[208, 176]⟩, .string ⟨#[209, 143]⟩, .string ⟨#[208, 182]⟩, .string ⟨#[107]⟩, .string ⟨#[48]⟩, .string ⟨#[57]⟩, .string ⟨#[45]⟩, .string ⟨#[53]⟩] 9)).cell? ⟨w.heap.size, j, none⟩ = some (.string (str (table.getD j [])))) :=
    Lib.hid (fun j hj => by
      have hg : ∀ c : Array Value, (w.alloc (.cells c 9)).heap[w.heap.size]? = some (.cells c 9) := fun c => by
        show (w.heap.push _)[w.heap.size]? = _
        simp
      simp only [World.cell?, hg, table_cell j hj]
      rfl)
  have HB1 := Lib.hid (HB.out (.cells #[Value.string ⟨#[97]⟩, .string ⟨#[122]⟩, .string ⟨#[109]⟩, .string ⟨#[206, 177]⟩, .string ⟨#[207, 137]⟩, .string ⟨#[207, 130]⟩, .string ⟨#[208, 176]⟩, .string ⟨#[209, 143]⟩, .string ⟨#[208, 182]⟩, .string ⟨#[107]⟩, .string ⟨#[48]⟩, .string ⟨#[57]⟩, .string ⟨#[45]⟩, .string ⟨#[53]⟩] 9))
  obtain ⟨w1, hw1⟩ : ∃ w1, w1 = (w.alloc (.cells #[Value.string ⟨#[97]⟩, .string ⟨#[122]⟩, .string ⟨#[109]⟩, .string ⟨#[206, 177]⟩, .string ⟨#[207, 137]⟩, .string ⟨#[207, 130]⟩, .string ⟨#[208, 176]⟩, .string ⟨#[209, 143]⟩, .string ⟨#[208, 182]⟩, .string ⟨#[107]⟩, .string ⟨#[48]⟩, .string ⟨#[57]⟩, .string ⟨#[45]⟩, .string ⟨#[53]⟩] 9)) := ⟨_, rfl⟩
  rw [← hw1] at HTab HB1 ⊢
  clear hw1 HB
  go_loop [4, 5] (fun s i => ∃ k : Nat, k ≤ bs.length ∧ k ≤ 15 ∧ i = .int .i64 k ∧ s = .string (str (98 :: items (bs.take k)))) (fun _ i => 15 - (intOf i).toNat)
  case atStart => exact ⟨0, Nat.zero_le _, by omega, rfl, rfl⟩
  case round =>
    obtain ⟨k, hk, hk15, rfl, rfl⟩ := hrel
    by_cases hlt : k < bs.length
    · by_cases h15 : k < 15
      · obtain ⟨b, off, rfl, hbl, hc⟩ := HC.out (by intro h; rw [h] at hlt; simp at hlt)
        obtain ⟨c, hcb⟩ : ∃ c, c = bs[k] := ⟨_, rfl⟩
        have hcl : w1.cell? ⟨b, off + k, none⟩ = some (.int .u8 (c.toNat : Int)) := by rw [HB1.out.cell hbl, hc k hlt, hcb]
        have hct : w1.cell? ⟨w.heap.size, c.toNat % 14, none⟩ = some (.string (str (item c.toNat))) := HTab.out _ (Nat.mod_lt _ (by decide))
        have hN := Lib.hid (show items (bs.take (k + 1)) = items (bs.take k) ++ item c.toNat by rw [List.take_succ_eq_append_getElem hlt, items_snoc, hcb])
        have hc255 : c.toNat ≤ 255 := by have := c.toNat_lt; omega
        obtain ⟨q, hq⟩ : ∃ q, q = str (98 :: items (bs.take k)) := ⟨_, rfl⟩
        have hqs : q.size ≤ 100 := by
          rw [hq, str_size]
          have := items_len (bs.take k)
          have := List.length_take_le k bs
          simp only [List.length_cons]
          omega
        obtain ⟨r, hr⟩ : ∃ r, r = str (item c.toNat) := ⟨_, rfl⟩
        have hrs : r.size ≤ 2 := by rw [hr, str_size]; exact item_size _
        rw [← hr] at hct
        rw [← hq]
        have HQ := Lib.hid hq
        have HR := Lib.hid hr
        clear hc hcb hq hr
        go_wp2
        go_round
        case rel =>
          refine ⟨k + 1, by omega, by omega, by go_num, ?_⟩
          rw [HQ.out, HR.out, hN.out, str_append]
          rfl
        case measure => simp [intOf]; omega
      · have h15' : k = 15 := by omega
        have HF := Lib.hid (show 98 :: items (bs.take k) = made bs by rw [h15']; rfl)
        clear h15'
        go_wp2
        go_ret
        exact ⟨by rw [HF.out]; rfl, HB1.out⟩
    · have HF := Lib.hid (show 98 :: items (bs.take k) = made bs by unfold made; rw [List.take_of_length_le (by omega), List.take_of_length_le (by omega)])
      go_wp2
      go_ret
      exact ⟨by rw [HF.out]; rfl, HB1.out⟩
end Go.Proofs.YtmcpeejmmhaohaaDoor.Word
