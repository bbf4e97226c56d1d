/- The document's own answer to chapter 6: what its Parse tells of any text; of memory that was there nothing turns. -/
import Derived.Test.YthknghbopfmlpaaDoorHRefA
namespace Go.Proofs.YthknghbopfmlpaaDoor.Sha
open Go.RowKit

/-- The sum of the digits below so many that a byte is. -/
def sto (c : UInt8) : Nat → Nat
  | 0 => 0
  | m + 1 => sto c m + if dig m = c then m else 0
theorem sto_le (c : UInt8) : ∀ m, m ≤ 16 → sto c m ≤ 15 * m
  | 0, _ => Nat.le_refl _
  | m + 1, h => by
    have := sto_le c m (by omega)
    unfold sto
    split <;> omega
theorem sto_dig : ∀ a, a < 16 → sto (dig a) 16 = a := by decide +kernel
/-- What the reference makes of two digits. -/
def two (c d : UInt8) : UInt8 := (16 * sto c 16 + sto d 16).toUInt8
theorem two_dig (b : UInt8) : two (dig (b.toNat / 16)) (dig (b.toNat % 16)) = b := by
  have hb : b.toNat < 256 := UInt8.toNat_lt _
  unfold two
  rw [sto_dig _ (by omega), sto_dig _ (by omega), Nat.div_add_mod]
  simp
/-- What the reference makes of the first so many pairs. -/
def pairs (t : List UInt8) : Nat → List UInt8
  | 0 => []
  | k + 1 => pairs t k ++ [two (t.getD (2 * k) 0) (t.getD (2 * k + 1) 0)]
theorem pairs_len (t : List UInt8) : ∀ k, (pairs t k).length = k
  | 0 => rfl
  | k + 1 => by simp [pairs, pairs_len t k]
theorem pairs_hex (x : List UInt8) : ∀ k, k ≤ x.length → pairs (hexL x) k = x.take k
  | 0, _ => by simp [pairs]
  | k + 1, h => by
    obtain ⟨h1, h2⟩ := hexL_at x k (by omega)
    rw [pairs, pairs_hex x k (by omega), List.getD_eq_getElem?_getD, List.getD_eq_getElem?_getD, h1, h2, Option.getD_some, Option.getD_some, two_dig, List.take_succ_eq_append_getElem (by omega)]

set_option maxHeartbeats 2000000 in
set_option maxRecDepth 100000 in
theorem rparse_any (s : ByteArray) (hs : s.size ≤ 140737488355328) (w : World) :
    Calls Tryd.prog 10 #[.string s] w (Parsed s.data.toList w) := by
  have HD := Lib.hid digit_any
  obtain ⟨T, hT⟩ : ∃ T, T = s.data.toList := ⟨_, rfl⟩
  have HTl : Hid (T.length = s.size) := Lib.hid (by rw [hT, size_list])
  have HG : Hid (∀ (j : Nat) (h : j < s.size), T.getD j 0 = s[j]) := Lib.hid fun j h => by
    rw [hT, List.getD_eq_getElem?_getD, getOf s j h]; rfl
  rw [← hT]
  have HTe := Lib.hid hT
  clear hT
  go_enter Tryd.func10, Tryd.ntmps10
  go_wp2
  go_loopw [4, 5] (fun v i wr => ∃ (j k : Nat) (x : ByteArray), j = 2 * k ∧ j ≤ s.size ∧ i = .int .i64 (j : Int) ∧ v = .string x ∧ x = str (pairs T k) ∧ Below w.heap.size w wr) (fun _ i _ => s.size - (intOf i).toNat)
  case atStart => exact ⟨0, 0, _, rfl, Nat.zero_le _, rfl, rfl, rfl, Below.refl _ _⟩
  case round =>
    obtain ⟨j, k, x, hj, hjs, rfl, rfl, hx, hb⟩ := hrel
    have HJ := Lib.hid hj
    have HX := Lib.hid hx
    have hjz : (j : Int) ≤ 140737488355328 := by omega
    clear hj hx
    by_cases hlt : j + 1 < s.size
    · have hltz : (j : Int) + 1 < (s.size : Int) := by omega
      have hltz0 : (j : Int) < (s.size : Int) := by omega
      have hlt0 : j < s.size := by omega
      obtain ⟨c, hc⟩ : ∃ c, s[j] = c := ⟨_, rfl⟩
      obtain ⟨d, hd⟩ : ∃ d, s[j + 1] = d := ⟨_, rfl⟩
      have HP : Hid (pairs T (k + 1) = pairs T k ++ [two c d]) := Lib.hid (by
        have e := HJ.out
        rw [pairs, show 2 * k = j from e.symm, HG.out j hlt0, HG.out (j + 1) hlt, hc, hd])
      go_wp2
      go_loopw [6, 7] (fun v i wr => ∃ (m q : Nat), m ≤ 16 ∧ i = .int .i64 (m : Int) ∧ v = .int .i64 (q : Int) ∧ q = 16 * sto c m + sto d m ∧ Below w.heap.size w wr) (fun _ i _ => 16 - (intOf i).toNat)
      case atStart => exact ⟨0, 0, Nat.zero_le _, rfl, rfl, rfl, hb⟩
      case round =>
        clear hb
        obtain ⟨m, q, hm, rfl, rfl, hq, hb⟩ := hrel
        have hq4 : q ≤ 4080 := by have := sto_le c m hm; have := sto_le d m hm; omega
        have HQ := Lib.hid hq
        clear hq
        by_cases hlm : m < 16
        · have hlmz : (m : Int) < 16 := by omega
          have hwm : IntKind.u8.wrap (m : Int) = (m : Int) := by rw [IntKind.wrap_u8']; omega
          have DM := Lib.hid (fun w => HD.out m hlm w)
          have HSc : Hid (sto c (m + 1) = sto c m + if dig m = c then m else 0) := Lib.hid rfl
          have HSd : Hid (sto d (m + 1) = sto d m + if dig m = d then m else 0) := Lib.hid rfl
          obtain ⟨e, he⟩ : ∃ e, dig m = e := ⟨_, rfl⟩
          rw [he] at DM HSc HSd
          clear he
          have k1 : ((e.toNat : Int) == (c.toNat : Int)) = decide (e = c) := by
            rw [Bool.eq_iff_iff, beq_iff_eq, decide_eq_true_iff]; exact ⟨fun h => UInt8.toNat_inj.1 (by omega), fun h => by rw [h]⟩
          have k2 : ((e.toNat : Int) == (d.toNat : Int)) = decide (e = d) := by
            rw [Bool.eq_iff_iff, beq_iff_eq, decide_eq_true_iff]; exact ⟨fun h => UInt8.toNat_inj.1 (by omega), fun h => by rw [h]⟩
          by_cases h1 : e = c
          all_goals
            by_cases h2 : e = d
            all_goals
              first | rw [decide_eq_true h1] at k1 | rw [decide_eq_false h1] at k1
              first | rw [decide_eq_true h2] at k2 | rw [decide_eq_false h2] at k2
              first | rw [if_pos h1] at HSc | rw [if_neg h1] at HSc
              first | rw [if_pos h2] at HSd | rw [if_neg h2] at HSd
              clear h1 h2
              go_wp2
              go_quiet ((go_at_call 16; exact Calls.quiet_of_same ((DM.out _).mono fun _ _ h => ⟨h.1, h.2.symm⟩)))
              have hb2 : Below w.heap.size w (wr.drewN nq) := ⟨hb.os, hb.tape, hb.output, hb.size, hb.block⟩
              generalize wr.drewN nq = w2 at hb2 ⊢
              go_wp2
              go_quiet ((go_at_call 16; exact Calls.quiet_of_same ((DM.out _).mono fun _ _ h => ⟨h.1, h.2.symm⟩)))
              have hb3 : Below w.heap.size w (w2.drewN nq) := ⟨hb2.os, hb2.tape, hb2.output, hb2.size, hb2.block⟩
              generalize w2.drewN nq = w3 at hb3 ⊢
              go_wp2
              go_roundw
              case rel =>
                clear hwm
                first
                  | exact ⟨m + 1, q + 16 * m + m, by omega, by go_num, by go_num, by rw [HSc.out, HSd.out]; have := HQ.out; omega, hb3⟩
                  | exact ⟨m + 1, q + 16 * m, by omega, by go_num, by go_num, by rw [HSc.out, HSd.out]; have := HQ.out; omega, hb3⟩
                  | exact ⟨m + 1, q + m, by omega, by go_num, by go_num, by rw [HSc.out, HSd.out]; have := HQ.out; omega, hb3⟩
                  | exact ⟨m + 1, q, by omega, by go_num, by go_num, by rw [HSc.out, HSd.out]; have := HQ.out; omega, hb3⟩
              case measure => simp [intOf]; omega
        · obtain rfl : m = 16 := by omega
          obtain ⟨y, hy⟩ : ∃ y, two c d = y := ⟨_, rfl⟩
          have hyz : (q : Int) % 256 = (y.toNat : Int) := by rw [← hy, HQ.out, two]; simp
          rw [hy] at HP
          have hcv := conv_built wr [y] (by simp)
          have hcv' : (convert 27 9 (.slice (some ⟨wr.heap.size, 0, none⟩) 1 1)).run Tryd.prog (wr.alloc (.cells #[.int .u8 (y.toNat : Int)] 5)) = .ok (.string (str [y])) (wr.alloc (.cells #[.int .u8 (y.toNat : Int)] 5)) := hcv
          have hxs : x.size = k := by rw [HX.out, str_size, pairs_len]
          have hadd : ∀ w, Sem.run Tryd.prog (Op.stringOp .add x (str [y])) w = .ok (.string (x ++ str [y])) w := fun w => run_string_add_sum w _ _ (by rw [str_size, hxs]; show k + 1 ≤ _; have := HJ.out; omega)
          have HN : Hid (x ++ str [y] = str (pairs T (k + 1))) := Lib.hid (by rw [HX.out, str_snoc, HP.out])
          clear hcv hxs hy hc hd
          go_wp2
          go_roundw
          case rel => exact ⟨j + 2, k + 1, _, by have := HJ.out; omega, by omega, by go_num, rfl, HN.out, hb.alloc hb.size _⟩
          case measure => simp [intOf]; omega
    · have hge : ¬ (j : Int) + 1 < (s.size : Int) := by omega
      have hk : k = T.length / 2 := by have := HJ.out; have := HTl.out; omega
      have hxl : x.data.toList = pairs T k := by rw [HX.out, str_toList]
      have hxs : x.size = k := by rw [HX.out, str_size, pairs_len]
      have HH := Lib.hid (rhex_any x (by have := HJ.out; omega) wr)
      rw [hxl] at HH
      by_cases hy : hexL (pairs T k) = T
      · have hne : (((str (hexL (pairs T k))).toList == s.toList)) = true := by rw [hy, HTe.out, str_of]; exact beq_self_eq_true _
        have HF : Hid (∀ w', Below w.heap.size w w' → Parsed T w (.returned (.tuple #[.string x, .bool true])) w') := Lib.hid fun w' hb => ⟨.inl ⟨pairs T k, hy, by rw [HX.out]⟩, hb⟩
        obtain ⟨z, hz⟩ : ∃ z, str (hexL (pairs T k)) = z := ⟨_, rfl⟩
        rw [hz] at HH hne
        clear hy hk hxl hxs hz
        go_wp2_with fail
        with_reducible refine HH.out.mono ?_
        rintro e w2 ⟨rfl, hb2⟩
        go_wp2
        go_ret2
        exact HF.out _ (grows hb hb2)
      · have hno : ∀ y, hexL y ≠ T := fun y h => by
          refine hy ?_
          have : pairs T k = y := by rw [← h, pairs_hex y k (by rw [hk, ← h, hexL_len]; omega), List.take_of_length_le (by rw [hk, ← h, hexL_len]; omega)]
          rw [this, h]
        have hne : (((str (hexL (pairs T k))).toList == s.toList)) = false := by
          rw [beq_eq_false_iff_ne, Lib.toList_data, Lib.toList_data, str_toList, ← HTe.out]
          exact hy
        have HF : Hid (∀ w', Below w.heap.size w w' → Parsed T w (.returned (.tuple #[.string ⟨#[]⟩, .bool false])) w') := Lib.hid fun w' hb => ⟨.inr ⟨hno, rfl⟩, hb⟩
        obtain ⟨z, hz⟩ : ∃ z, str (hexL (pairs T k)) = z := ⟨_, rfl⟩
        rw [hz] at HH hne
        clear hy hk hxl hxs hz hno
        go_wp2_with fail
        with_reducible refine HH.out.mono ?_
        rintro e w2 ⟨rfl, hb2⟩
        go_wp2
        go_ret2
        exact HF.out _ (grows hb hb2)
end Go.Proofs.YthknghbopfmlpaaDoor.Sha
