/- What the document's own Number answers (chapter 3): the number whose digits these are, or none; of memory that was there nothing turns. -/
import Derived.Test.YtbilkeadhflibaaGreatDoorYRefC
namespace Go.Proofs.YtbilkeadhflibaaGreatDoor.Job
open Go.RowKit Go.Proofs.YtbilkeadhflibaaGreatDoor.Wire Go.Proofs.YtbilkeadhflibaaGreatDoor.Vec Go.Proofs.YtbilkeadhflibaaGreatDoor.Sel

/-- The number that these digits are, as it goes round. -/
def nv (l : List UInt8) : Nat := l.foldl (fun n c => (n * 10 + (c.toNat - 48)) % 18446744073709551616) 0
theorem nv_snoc (l : List UInt8) (c : UInt8) : nv (l ++ [c]) = (nv l * 10 + (c.toNat - 48)) % 18446744073709551616 := by
  unfold nv
  rw [List.foldl_append]
  rfl
theorem nv_lt : ∀ (l : List UInt8), nv l < 18446744073709551616 := fun l => by
  rcases List.eq_nil_or_concat l with rfl | ⟨a, c, rfl⟩
  · decide
  · rw [List.concat_eq_append, nv_snoc]; omega
theorem nv_dec (u : Nat) (hu : u < 18446744073709551616) : nv (Lib.decDigits u) = u := by
  induction u using Nat.strongRecOn with
  | _ u ih =>
    by_cases h : u < 10
    · rw [Lib.decDigits_one h]
      show (0 * 10 + ((UInt8.ofNat (48 + u)).toNat - 48)) % _ = _
      rw [dig_nat h]
      omega
    · rw [dec_more h, nv_snoc, ih (u / 10) (by omega) (by omega), dig_nat (by omega)]
      omega
def TellsN (r : Option Nat) (w : World) (e : Ending) (w' : World) : Prop := (match r with
  | some u => e = .returned (.tuple #[.int .u64 u, .bool true])
  | none => e = .returned (.tuple #[.int .u64 0, .bool false])) ∧ Below w.heap.size w w'
theorem num_list {s : ByteArray} {u : Nat} (h : numL s = some u) : s.data.toList = Lib.decDigits u := by
  rw [← (numL_some h).1]
  rfl
theorem num_len {s : ByteArray} {u : Nat} (h : numL s = some u) : 1 ≤ s.size ∧ s.size ≤ 20 := by
  rw [← (numL_some h).1]
  exact dec_size (numL_lt h)
theorem byte_at (s : ByteArray) (k : Nat) (h : k < s.size) : s.data.toList[k]? = some (s[k]'h) := by
  rw [Array.getElem?_toList]
  exact Array.getElem?_eq_getElem h
theorem take_at {s : ByteArray} {k : Nat} (h : k < s.size) : s.data.toList.take (k + 1) = s.data.toList.take k ++ [s[k]'h] := by
  rw [List.take_add_one, byte_at s k h]
  rfl

set_option maxHeartbeats 4000000 in
set_option maxRecDepth 100000 in
theorem refNumber_any (s : ByteArray) (w : World) :
    Calls Tryz.prog 40 #[.string s] w (TellsN (numL s) w) := by
  unfold TellsN
  by_cases h0 : s.size = 0
  · have hn : numL s = none := by
      cases h : numL s with
      | none => rfl
      | some u => have := num_len h; omega
    rw [hn]
    have hz : ((s.size : Int) == 0) = true := by rw [beq_iff_eq]; omega
    clear hn h0
    go_enter Tryz.func40, Tryz.ntmps40
    go_wp2
    go_ret2
    exact ⟨rfl, Below.refl _ _⟩
  · have hz : ((s.size : Int) == 0) = false := by rw [beq_eq_false_iff_ne]; omega
    by_cases h20 : 20 < s.size
    · have hn : numL s = none := by
        cases h : numL s with
        | none => rfl
        | some u => have := num_len h; omega
      rw [hn]
      have hgz : (20 : Int) < (s.size : Int) := by omega
      clear hn h0
      go_enter Tryz.func40, Tryz.ntmps40
      go_wp2
      go_ret2
      exact ⟨rfl, Below.refl _ _⟩
    · have hgz : ¬ (20 : Int) < (s.size : Int) := by omega
      obtain ⟨R, hR⟩ : ∃ R, R = numL s := ⟨_, rfl⟩
      have HR := Lib.hid hR
      rw [← hR]
      clear hR h0
      go_enter Tryz.func40, Tryz.ntmps40
      go_wp2
      go_loopw [4, 5] (fun n i wr => ∃ j : Nat, j ≤ s.size ∧ i = .int .i64 j ∧ n = .int .u64 (nv (s.data.toList.take j) : Nat) ∧ wr = w) (fun _ i _ => s.size - (intOf i).toNat)
      case atStart => exact ⟨0, Nat.zero_le _, rfl, rfl, rfl⟩
      case round =>
        obtain ⟨j, hj, rfl, rfl, hwr⟩ := hrel
        subst hwr
        by_cases hlt : j < s.size
        · have hltz : (j : Int) < (s.size : Int) := by omega
          have hj0 : (0 : Int) ≤ (j : Int) := by omega
          have ht := take_at hlt
          have hbt := byte_at s j hlt
          obtain ⟨c, hc⟩ : ∃ c, s[j] = c := ⟨_, rfl⟩
          rw [hc] at ht hbt
          have HT := Lib.hid (nv_snoc (s.data.toList.take j) c)
          rw [← ht] at HT
          have hm : (c.toNat < 48 ∨ 57 < c.toNat) → R = none := fun hb => by
            rw [HR.out]
            cases h : numL s with
            | none => rfl
            | some u =>
              exfalso
              refine dec_free (u := u) hb ?_
              rw [← num_list h]
              exact List.mem_of_getElem? hbt
          have Hm := Lib.hid hm
          have hcl := c.toNat_lt
          obtain ⟨n, hn⟩ : ∃ n, n = nv (s.data.toList.take j) := ⟨_, rfl⟩
          have hnl : n < 18446744073709551616 := by rw [hn]; exact nv_lt _
          rw [← hn] at HT ⊢
          clear ht hbt hm hn
          by_cases hlo : c.toNat < 48
          · have hloz : (c.toNat : Int) < 48 := by omega
            have hRn : R = none := Hm.out (.inl hlo)
            subst hRn
            go_wp2
            go_ret2
            exact ⟨rfl, Below.refl _ _⟩
          · have hloz : ¬ (c.toNat : Int) < 48 := by omega
            by_cases hhi : 57 < c.toNat
            · have hhiz : (57 : Int) < (c.toNat : Int) := by omega
              have hRn : R = none := Hm.out (.inr hhi)
              subst hRn
              go_wp2
              go_ret2
              exact ⟨rfl, Below.refl _ _⟩
            · have hhiz : ¬ (57 : Int) < (c.toNat : Int) := by omega
              obtain ⟨d, hd⟩ : ∃ d, d = c.toNat - 48 := ⟨_, rfl⟩
              have hd8 : IntKind.u8.wrap ((c.toNat : Int) - 48) = (d : Int) := by rw [IntKind.wrap_u8]; omega
              have hd64 : IntKind.u64.wrap (d : Int) = (d : Int) := by rw [IntKind.wrap_u64]; omega
              obtain ⟨m, hm⟩ : ∃ m, m = n * 10 % 18446744073709551616 := ⟨_, rfl⟩
              have hm64 : IntKind.u64.wrap ((n : Int) * 10) = (m : Int) := by rw [IntKind.wrap_u64]; omega
              obtain ⟨q, hq⟩ : ∃ q, q = (m + d) % 18446744073709551616 := ⟨_, rfl⟩
              have hq64 : IntKind.u64.wrap ((m : Int) + (d : Int)) = (q : Int) := by rw [IntKind.wrap_u64]; omega
              have HN : Hid (nv (s.data.toList.take (j + 1)) = q) := Lib.hid (by rw [HT.out, hq, hm, hd]; omega)
              clear hd hm hq hlo hhi
              go_wp2
              go_roundw
              case rel => exact ⟨j + 1, by omega, by go_num, by rw [HN.out], by first | rfl | trivial⟩
              case measure => simp [intOf]; omega
        · have hjs : j = s.size := by omega
          have hltz : ¬ (j : Int) < (s.size : Int) := by omega
          have htk : s.data.toList.take j = s.data.toList := List.take_of_length_le (by rw [size_list]; omega)
          rw [htk]
          obtain ⟨n, hn⟩ : ∃ n, n = nv s.data.toList := ⟨_, rfl⟩
          have hnl : n < 18446744073709551616 := by rw [hn]; exact nv_lt _
          rw [← hn]
          have HD := Lib.hid (fun W => refDigits_any n hnl W)
          by_cases he : dec n = s
          · have hRs : R = some n := by rw [HR.out, ← he]; exact numL_dec hnl
            subst hRs
            have hne : ((dec n).toList == s.toList) = true := by rw [he]; simp
            generalize dec n = D at HD hne
            clear htk hn he hjs
            go_wp2_with fail
            with_reducible refine (HD.out _).mono ?_
            rintro e w2 ⟨rfl, hb⟩
            go_wp2
            go_ret2
            exact ⟨rfl, hb⟩
          · have hRn : R = none := by
              rw [HR.out]
              cases h : numL s with
              | none => rfl
              | some u =>
                exfalso
                have h2 := num_list h
                rw [h2, nv_dec u (numL_lt h)] at hn
                exact he (by rw [hn]; exact (numL_some h).1)
            subst hRn
            have hne : ((dec n).toList == s.toList) = false := by
              rw [beq_eq_false_iff_ne]
              intro h
              exact he (list_eq_of_toList h)
            generalize dec n = D at HD hne
            clear htk hn he hjs
            go_wp2_with fail
            with_reducible refine (HD.out _).mono ?_
            rintro e w2 ⟨rfl, hb⟩
            go_wp2
            go_ret2
            exact ⟨rfl, hb⟩
end Go.Proofs.YtbilkeadhflibaaGreatDoor.Job
