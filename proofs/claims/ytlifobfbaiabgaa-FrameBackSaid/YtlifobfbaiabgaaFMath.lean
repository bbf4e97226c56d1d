/- CRC-32 and records by plain numbers: what a sum tells, that it is linear, that a run of up to 32 bits turned gives another one; records, one behind another; of no program. -/
import Derived.KernelRfl
namespace Go.Proofs.Ytlifobfbaiabgaa.Frame

/-- One bit of the register. -/
def st (r : Nat) : Nat := r / 2 ^^^ (if r % 2 = 1 then 3988292384 else 0)
def stn : Nat → Nat → Nat
  | 0, r => r
  | n + 1, r => stn n (st r)
/-- One byte. -/
def absorb (r : Nat) (b : UInt8) : Nat := stn 8 (r ^^^ b.toNat)
def run (r : Nat) (l : List UInt8) : Nat := l.foldl absorb r
/-- P8.1. -/
def crcL (l : List UInt8) : Nat := run 4294967295 l ^^^ 4294967295

theorem xor_lt {a b : Nat} (ha : a < 4294967296) (hb : b < 4294967296) : a ^^^ b < 4294967296 := Nat.xor_lt_two_pow (n := 32) ha hb
theorem st_lt {r : Nat} (h : r < 4294967296) : st r < 4294967296 := by
  unfold st
  refine xor_lt (by omega) ?_
  split <;> omega
theorem stn_lt : ∀ (n : Nat) {r : Nat}, r < 4294967296 → stn n r < 4294967296
  | 0, _, h => h
  | n + 1, _, h => stn_lt n (st_lt h)
theorem byte_lt (b : UInt8) : b.toNat < 4294967296 := by have := b.toNat_lt; omega
theorem absorb_lt {r : Nat} (h : r < 4294967296) (b : UInt8) : absorb r b < 4294967296 := stn_lt 8 (xor_lt h (byte_lt b))
theorem run_lt : ∀ (l : List UInt8) {r : Nat}, r < 4294967296 → run r l < 4294967296
  | [], _, h => h
  | b :: l, _, h => run_lt l (r := absorb _ b) (absorb_lt h b)
theorem crcL_lt (l : List UInt8) : crcL l < 4294967296 := xor_lt (run_lt l (by omega)) (by omega)
theorem run_nil (r : Nat) : run r [] = r := rfl
theorem run_cons (r : Nat) (b : UInt8) (l : List UInt8) : run r (b :: l) = run (absorb r b) l := rfl
theorem run_append (r : Nat) (a b : List UInt8) : run r (a ++ b) = run (run r a) b := by unfold run; rw [List.foldl_append]

theorem half_xor (a b : Nat) : (a ^^^ b) / 2 = a / 2 ^^^ b / 2 := by
  apply Nat.eq_of_testBit_eq
  intro i
  rw [Nat.testBit_div_two, Nat.testBit_xor, Nat.testBit_xor, Nat.testBit_div_two, Nat.testBit_div_two]
theorem odd_xor (a b : Nat) : ((a ^^^ b) % 2 = 1) ↔ ¬ ((a % 2 = 1) ↔ (b % 2 = 1)) := by
  have h := Nat.testBit_xor a b 0
  rw [Nat.testBit_zero, Nat.testBit_zero, Nat.testBit_zero] at h
  by_cases ha : a % 2 = 1 <;> by_cases hb : b % 2 = 1 <;> simp [ha, hb] at h ⊢ <;> omega
theorem st_xor (a b : Nat) : st (a ^^^ b) = st a ^^^ st b := by
  unfold st
  rw [half_xor]
  by_cases ha : a % 2 = 1 <;> by_cases hb : b % 2 = 1
  · rw [if_neg (by rw [odd_xor]; simp [ha, hb]), if_pos ha, if_pos hb]
    apply Nat.eq_of_testBit_eq
    intro i
    simp only [Nat.testBit_xor, Nat.zero_testBit]
    cases (a / 2).testBit i <;> cases (b / 2).testBit i <;> cases Nat.testBit 3988292384 i <;> rfl
  · rw [if_pos (by rw [odd_xor]; simp [ha, hb]), if_pos ha, if_neg hb]
    apply Nat.eq_of_testBit_eq
    intro i
    simp only [Nat.testBit_xor, Nat.zero_testBit]
    cases (a / 2).testBit i <;> cases (b / 2).testBit i <;> cases Nat.testBit 3988292384 i <;> rfl
  · rw [if_pos (by rw [odd_xor]; simp [ha, hb]), if_neg ha, if_pos hb]
    apply Nat.eq_of_testBit_eq
    intro i
    simp only [Nat.testBit_xor, Nat.zero_testBit]
    cases (a / 2).testBit i <;> cases (b / 2).testBit i <;> cases Nat.testBit 3988292384 i <;> rfl
  · rw [if_neg (by rw [odd_xor]; simp [ha, hb]), if_neg ha, if_neg hb]
    simp
theorem stn_xor : ∀ (n a b : Nat), stn n (a ^^^ b) = stn n a ^^^ stn n b
  | 0, _, _ => rfl
  | n + 1, a, b => by rw [stn, stn, stn, st_xor, stn_xor n]
theorem xor_four (r q a b : Nat) : r ^^^ q ^^^ (a ^^^ b) = (r ^^^ a) ^^^ (q ^^^ b) := by
  apply Nat.eq_of_testBit_eq
  intro i
  simp only [Nat.testBit_xor]
  cases r.testBit i <;> cases q.testBit i <;> cases a.testBit i <;> cases b.testBit i <;> rfl
theorem absorb_xor (r q : Nat) (a b : UInt8) : absorb (r ^^^ q) (a ^^^ b) = absorb r a ^^^ absorb q b := by
  unfold absorb
  rw [UInt8.toNat_xor, xor_four, stn_xor]
/-- Two texts of one length, byte by byte. -/
def xorL (a b : List UInt8) : List UInt8 := List.zipWith (· ^^^ ·) a b
theorem xorL_len {a b : List UInt8} (h : a.length = b.length) : (xorL a b).length = a.length := by unfold xorL; rw [List.length_zipWith]; omega
theorem run_xor : ∀ (a b : List UInt8) (r q : Nat), a.length = b.length → run (r ^^^ q) (xorL a b) = run r a ^^^ run q b
  | [], [], _, _, _ => rfl
  | x :: a, y :: b, r, q, h => by
    show run (absorb (r ^^^ q) (x ^^^ y)) (xorL a b) = _
    rw [absorb_xor]
    exact run_xor a b _ _ (by simpa using h)
  | [], _ :: _, _, _, h => by simp at h
  | _ :: _, [], _, _, h => by simp at h
/-- P8.1: any three make the fourth. -/
theorem crc_three {a b c : List UInt8} (h1 : a.length = b.length) (h2 : b.length = c.length) : crcL (xorL (xorL a b) c) = crcL a ^^^ crcL b ^^^ crcL c := by
  unfold crcL
  have e : (4294967295 : Nat) = 4294967295 ^^^ 4294967295 ^^^ 4294967295 := by decide
  have : run 4294967295 (xorL (xorL a b) c) = run 4294967295 a ^^^ run 4294967295 b ^^^ run 4294967295 c := by
    conv => lhs; rw [e]
    rw [run_xor _ _ _ _ (by rw [xorL_len h1]; omega), run_xor _ _ _ _ h1]
  rw [this]
  generalize run 4294967295 a = x
  generalize run 4294967295 b = y
  generalize run 4294967295 c = z
  apply Nat.eq_of_testBit_eq
  intro i
  simp only [Nat.testBit_xor]
  cases x.testBit i <;> cases y.testBit i <;> cases z.testBit i <;> cases Nat.testBit 4294967295 i <;> rfl

/-- Where no bit came round, the register was only moved. -/
theorem st_low {r : Nat} (hr : r < 4294967296) (h : st r < 2147483648) : r = 2 * st r := by
  unfold st at h ⊢
  by_cases ho : r % 2 = 1
  · rw [if_pos ho] at h
    have h1 : (r / 2 ^^^ 3988292384).testBit 31 = true := by
      rw [Nat.testBit_xor, Nat.testBit_lt_two_pow (x := r / 2) (i := 31) (by omega)]
      decide
    have h2 := Nat.testBit_lt_two_pow (x := r / 2 ^^^ 3988292384) (i := 31) (by omega)
    rw [h1] at h2
    cases h2
  · rw [if_neg ho, Nat.xor_zero]
    omega
theorem stn_low : ∀ (n : Nat) {r : Nat}, n ≤ 32 → r < 4294967296 → stn n r < 2 ^ (32 - n) → r = 2 ^ n * stn n r
  | 0, r, _, _, _ => by simp [stn]
  | n + 1, r, hn, hr, h => by
    rw [stn] at h ⊢
    have hp : 2 ^ (32 - n) = 2 * 2 ^ (32 - (n + 1)) := by rw [show 32 - n = (32 - (n + 1)) + 1 by omega, Nat.pow_succ, Nat.mul_comm]
    have h1 := stn_low n (r := st r) (by omega) (st_lt hr) (by omega)
    have h2 : st r < 2147483648 := by
      rw [h1]
      have : 2 ^ n * stn n (st r) < 2 ^ n * 2 ^ (32 - (n + 1)) := Nat.mul_lt_mul_of_pos_left h (Nat.two_pow_pos n)
      rw [← Nat.pow_add, show n + (32 - (n + 1)) = 31 by omega] at this
      exact this
    have h3 := st_low hr h2
    rw [Nat.pow_succ, Nat.mul_comm (2 ^ n) 2, Nat.mul_assoc, ← h1]
    exact h3
theorem stn_zero (n : Nat) : stn n 0 = 0 := by
  induction n with
  | zero => rfl
  | succ n ih => rw [stn, show st 0 = 0 by decide]; exact ih
theorem absorb_none {r : Nat} {b : UInt8} (hr : r < 4294967296) (h : absorb r b < 16777216) : r ^^^ b.toNat = 256 * absorb r b :=
  stn_low 8 (by omega) (xor_lt hr (byte_lt b)) h
theorem xor_back {a b c : Nat} (h : a ^^^ b = c) : a = c ^^^ b := by
  rw [← h, Nat.xor_assoc, Nat.xor_self, Nat.xor_zero]
theorem mul_xor {v b : Nat} (hb : b < 256) : 256 * v ^^^ b = 256 * v + b := by
  have := Nat.two_pow_add_eq_or_of_lt (i := 8) (b := b) (by simpa using hb) v
  rw [show 2 ^ 8 * v = 256 * v from rfl] at this
  rw [this]
  apply Nat.eq_of_testBit_eq
  intro i
  rw [Nat.testBit_xor, Nat.testBit_or]
  have h1 : (256 * v).testBit i = true → b.testBit i = false := fun h => by
    rw [show 256 * v = 2 ^ 8 * v from rfl, Nat.testBit_two_pow_mul] at h
    simp at h
    exact Nat.testBit_lt_two_pow (Nat.lt_of_lt_of_le hb (by rw [show 256 = 2 ^ 8 from rfl]; exact Nat.pow_le_pow_right (by omega) h.1))
  cases h2 : (256 * v).testBit i <;> cases h3 : b.testBit i <;> simp_all
/-- Of four bytes, not all of them nought, the register that was empty is not empty behind them. -/
theorem four_turn {e0 e1 e2 e3 : UInt8} (h : run 0 [e0, e1, e2, e3] = 0) : e0 = 0 ∧ e1 = 0 ∧ e2 = 0 ∧ e3 = 0 := by
  simp only [run_cons, run_nil] at h
  have l0 := e0.toNat_lt
  have l1 := e1.toNat_lt
  have l2 := e2.toNat_lt
  have l3 := e3.toNat_lt
  have w0 : absorb 0 e0 < 4294967296 := absorb_lt (by omega) _
  have w1 : absorb (absorb 0 e0) e1 < 4294967296 := absorb_lt w0 _
  have w2 : absorb (absorb (absorb 0 e0) e1) e2 < 4294967296 := absorb_lt w1 _
  have h3 := xor_back (absorb_none w2 (by rw [h]; omega))
  rw [h, Nat.mul_zero, Nat.zero_xor] at h3
  have h2 := xor_back (absorb_none w1 (b := e2) (by rw [h3]; omega))
  rw [h3, mul_xor l2] at h2
  have h1 := xor_back (absorb_none w0 (b := e1) (by rw [h2]; omega))
  rw [h2, mul_xor l1] at h1
  have h0 := absorb_none (r := 0) (b := e0) (by omega) (by rw [h1]; omega)
  rw [Nat.zero_xor, h1] at h0
  refine ⟨?_, ?_, ?_, ?_⟩ <;> apply UInt8.toNat_inj.1 <;> rw [show (0 : UInt8).toNat = 0 from rfl] <;> omega
theorem run_noughts : ∀ n, run 0 (List.replicate n 0) = 0
  | 0 => rfl
  | n + 1 => by
    rw [List.replicate_succ, run_cons, show absorb 0 0 = 0 by decide]
    exact run_noughts n
theorem absorb_zero {r : Nat} (hr : r < 4294967296) (h : absorb r 0 = 0) : r = 0 := by
  have := absorb_none hr (b := 0) (by rw [h]; omega)
  rw [h] at this
  simpa using this
theorem run_noughts_zero : ∀ (n : Nat) {r : Nat}, r < 4294967296 → run r (List.replicate n 0) = 0 → r = 0
  | 0, _, _, h => h
  | n + 1, r, hr, h => by
    rw [List.replicate_succ, run_cons] at h
    exact absorb_zero hr (run_noughts_zero n (absorb_lt hr 0) h)
theorem xorL_self : ∀ l : List UInt8, xorL l l = List.replicate l.length 0
  | [] => rfl
  | x :: l => by
    show (x ^^^ x) :: xorL l l = _
    rw [xorL_self l, UInt8.xor_self, List.length_cons, List.replicate_succ]
theorem xorL_append {a b : List UInt8} (c d : List UInt8) (h : a.length = b.length) : xorL (a ++ c) (b ++ d) = xorL a b ++ xorL c d := by
  unfold xorL
  exact List.zipWith_append h
/-- P8.3: a run of up to 32 bits turned gives another sum. -/
theorem crc_spoilt {p q s : List UInt8} {a0 a1 a2 a3 b0 b1 b2 b3 : UInt8} (hq : q = s) (h : crcL (p ++ [a0, a1, a2, a3] ++ q) = crcL (p ++ [b0, b1, b2, b3] ++ s)) : a0 = b0 ∧ a1 = b1 ∧ a2 = b2 ∧ a3 = b3 := by
  subst hq
  have h1 : run 4294967295 (p ++ [a0, a1, a2, a3] ++ q) = run 4294967295 (p ++ [b0, b1, b2, b3] ++ q) := by
    unfold crcL at h
    have := congrArg (· ^^^ 4294967295) h
    simpa [Nat.xor_assoc] using this
  have h2 : run 0 (xorL (p ++ [a0, a1, a2, a3] ++ q) (p ++ [b0, b1, b2, b3] ++ q)) = 0 := by
    have := run_xor (p ++ [a0, a1, a2, a3] ++ q) (p ++ [b0, b1, b2, b3] ++ q) 4294967295 4294967295 (by simp)
    rw [h1, Nat.xor_self, Nat.xor_self] at this
    exact this
  rw [xorL_append _ _ (by simp), xorL_append _ _ rfl, xorL_self, xorL_self, run_append, run_append, run_noughts] at h2
  have h3 := four_turn (run_noughts_zero _ (run_lt _ (by omega)) h2)
  obtain ⟨z0, z1, z2, z3⟩ := h3
  refine ⟨?_, ?_, ?_, ?_⟩ <;> exact UInt8.xor_eq_zero_iff.1 (by assumption)
end Go.Proofs.Ytlifobfbaiabgaa.Frame
