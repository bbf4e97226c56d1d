/- Sums of 256 bits by plain numbers (turns of words, the spread of a block, its 64 steps, what is added to a text), and digits; of no program. -/
import Derived.Laws.BitsAllLaws
import Derived.KernelRfl
namespace Go.Proofs.YthopegokjbibmaaDoor.Sha

/-- A word turned right. -/
def rot (x k : Nat) : Nat := (x * 2 ^ (32 - k) % 4294967296) ||| (x / 2 ^ k)
def low0 (x : Nat) : Nat := (rot x 7 ^^^ rot x 18) ^^^ (x / 8)
def low1 (x : Nat) : Nat := (rot x 17 ^^^ rot x 19) ^^^ (x / 1024)
def big0 (x : Nat) : Nat := (rot x 2 ^^^ rot x 13) ^^^ rot x 22
def big1 (x : Nat) : Nat := (rot x 6 ^^^ rot x 11) ^^^ rot x 25
def cho (e f g : Nat) : Nat := (e &&& f) ^^^ ((4294967295 ^^^ e) &&& g)
def maj (a b c : Nat) : Nat := ((a &&& b) ^^^ (a &&& c)) ^^^ (b &&& c)

/-- The k-th byte of a text as a number. -/
def byteAt (l : List UInt8) (k : Nat) : Nat := (l.getD k 0).toNat
theorem byteAt_lt (l : List UInt8) (k : Nat) : byteAt l k < 256 := UInt8.toNat_lt _
/-- The k-th word of a block. -/
def be4 (l : List UInt8) (k : Nat) : Nat := ((byteAt l (4 * k) * 16777216 % 4294967296 ||| byteAt l (4 * k + 1) * 65536 % 4294967296) ||| byteAt l (4 * k + 2) * 256 % 4294967296) ||| byteAt l (4 * k + 3)

/-- The word behind so many of a spread. -/
def nextW (l : List Nat) : Nat := (l.getD (l.length - 16) 0 + low0 (l.getD (l.length - 15) 0) + l.getD (l.length - 7) 0 + low1 (l.getD (l.length - 2) 0)) % 4294967296
/-- The first words of a block's spread. -/
def sched (b : List UInt8) : Nat → List Nat
  | 0 => []
  | k + 1 => sched b k ++ [if k < 16 then be4 b k else nextW (sched b k)]
theorem sched_length (b : List UInt8) : ∀ k, (sched b k).length = k
  | 0 => rfl
  | k + 1 => by simp [sched, sched_length b k]

theorem lt_or {a b : Nat} (ha : a < 4294967296) (hb : b < 4294967296) : a ||| b < 4294967296 := Nat.or_lt_two_pow (n := 32) ha hb
theorem lt_xor {a b : Nat} (ha : a < 4294967296) (hb : b < 4294967296) : a ^^^ b < 4294967296 := Nat.xor_lt_two_pow (n := 32) ha hb
theorem lt_and {a b : Nat} (ha : a < 4294967296) : a &&& b < 4294967296 := Nat.lt_of_le_of_lt Nat.and_le_left ha
theorem div_lt {a k : Nat} (ha : a < 4294967296) : a / k < 4294967296 := Nat.lt_of_le_of_lt (Nat.div_le_self _ _) ha
theorem mod_lt {a : Nat} : a % 4294967296 < 4294967296 := Nat.mod_lt _ (by decide)
theorem rot_lt {x : Nat} (k : Nat) (h : x < 4294967296) : rot x k < 4294967296 := lt_or mod_lt (div_lt h)
theorem low0_lt {x : Nat} (h : x < 4294967296) : low0 x < 4294967296 := lt_xor (lt_xor (rot_lt _ h) (rot_lt _ h)) (div_lt h)
theorem low1_lt {x : Nat} (h : x < 4294967296) : low1 x < 4294967296 := lt_xor (lt_xor (rot_lt _ h) (rot_lt _ h)) (div_lt h)
theorem big0_lt {x : Nat} (h : x < 4294967296) : big0 x < 4294967296 := lt_xor (lt_xor (rot_lt _ h) (rot_lt _ h)) (rot_lt _ h)
theorem big1_lt {x : Nat} (h : x < 4294967296) : big1 x < 4294967296 := lt_xor (lt_xor (rot_lt _ h) (rot_lt _ h)) (rot_lt _ h)
theorem be4_lt (l : List UInt8) (k : Nat) : be4 l k < 4294967296 := lt_or (lt_or (lt_or mod_lt mod_lt) mod_lt) (Nat.lt_trans (byteAt_lt _ _) (by decide))
theorem sched_lt (b : List UInt8) : ∀ k, ∀ x ∈ sched b k, x < 4294967296
  | 0 => fun x hx => by simp [sched] at hx
  | k + 1 => fun x hx => by
    rw [sched, List.mem_append] at hx
    rcases hx with hx | hx
    · exact sched_lt b k x hx
    · simp at hx
      subst hx
      split
      · exact be4_lt _ _
      · exact mod_lt
theorem sched_take (b : List UInt8) (j : Nat) : ∀ k, j ≤ k → (sched b k).take j = sched b j
  | 0, h => by obtain rfl : j = 0 := by omega
               rfl
  | k + 1, h => by
    by_cases e : j = k + 1
    · subst e
      rw [List.take_of_length_le (by rw [sched_length]; omega)]
    · rw [sched, List.take_append_of_le_length (by rw [sched_length]; omega)]
      exact sched_take b j k (by omega)

/-- Eight words. -/
structure St where
  (a b c d e f g h : Nat)
def St.ok (s : St) : Prop := s.a < 4294967296 ∧ s.b < 4294967296 ∧ s.c < 4294967296 ∧ s.d < 4294967296 ∧ s.e < 4294967296 ∧ s.f < 4294967296 ∧ s.g < 4294967296 ∧ s.h < 4294967296
def St.list (s : St) : List Nat := [s.a, s.b, s.c, s.d, s.e, s.f, s.g, s.h]
/-- What is fresh in a step. -/
def fresh (k w : Nat) (s : St) : Nat := s.h + big1 s.e + cho s.e s.f s.g + k + w
def step (k w : Nat) (s : St) : St := ⟨(fresh k w s + big0 s.a + maj s.a s.b s.c) % 4294967296, s.a, s.b, s.c, (s.d + fresh k w s) % 4294967296, s.e, s.f, s.g⟩
theorem step_ok (k w : Nat) {s : St} (h : s.ok) : (step k w s).ok := ⟨mod_lt, h.1, h.2.1, h.2.2.1, mod_lt, h.2.2.2.2.1, h.2.2.2.2.2.1, h.2.2.2.2.2.2.1⟩
/-- Eight words behind so many steps. -/
def steps (K W : List Nat) (s : St) : Nat → St
  | 0 => s
  | n + 1 => step (K.getD n 0) (W.getD n 0) (steps K W s n)
theorem steps_ok (K W : List Nat) {s : St} (h : s.ok) : ∀ n, (steps K W s n).ok
  | 0 => h
  | n + 1 => step_ok _ _ (steps_ok K W h n)
def St.add (s r : St) : St := ⟨(s.a + r.a) % 4294967296, (s.b + r.b) % 4294967296, (s.c + r.c) % 4294967296, (s.d + r.d) % 4294967296, (s.e + r.e) % 4294967296, (s.f + r.f) % 4294967296, (s.g + r.g) % 4294967296, (s.h + r.h) % 4294967296⟩
theorem St.add_ok (s r : St) : (s.add r).ok := ⟨mod_lt, mod_lt, mod_lt, mod_lt, mod_lt, mod_lt, mod_lt, mod_lt⟩

def cubes : List Nat := [0x428a2f98, 0x71374491, 0xb5c0fbcf, 0xe9b5dba5, 0x3956c25b, 0x59f111f1, 0x923f82a4, 0xab1c5ed5,
  0xd807aa98, 0x12835b01, 0x243185be, 0x550c7dc3, 0x72be5d74, 0x80deb1fe, 0x9bdc06a7, 0xc19bf174,
  0xe49b69c1, 0xefbe4786, 0x0fc19dc6, 0x240ca1cc, 0x2de92c6f, 0x4a7484aa, 0x5cb0a9dc, 0x76f988da,
  0x983e5152, 0xa831c66d, 0xb00327c8, 0xbf597fc7, 0xc6e00bf3, 0xd5a79147, 0x06ca6351, 0x14292967,
  0x27b70a85, 0x2e1b2138, 0x4d2c6dfc, 0x53380d13, 0x650a7354, 0x766a0abb, 0x81c2c92e, 0x92722c85,
  0xa2bfe8a1, 0xa81a664b, 0xc24b8b70, 0xc76c51a3, 0xd192e819, 0xd6990624, 0xf40e3585, 0x106aa070,
  0x19a4c116, 0x1e376c08, 0x2748774c, 0x34b0bcb5, 0x391c0cb3, 0x4ed8aa4a, 0x5b9cca4f, 0x682e6ff3,
  0x748f82ee, 0x78a5636f, 0x84c87814, 0x8cc70208, 0x90befffa, 0xa4506ceb, 0xbef9a3f7, 0xc67178f2]
theorem cubes_len : cubes.length = 64 := rfl
theorem cubes_lt : ∀ k, cubes.getD k 0 < 4294967296 := by
  intro k
  by_cases h : k < 64
  · exact (show ∀ k, k < 64 → cubes.getD k 0 < 4294967296 by decide +kernel) k h
  · have : cubes.getD k 0 = 0 := by rw [List.getD_eq_getElem?_getD, List.getElem?_eq_none (by rw [cubes_len]; omega)]; rfl
    rw [this]; decide
def squares : St := ⟨0x6a09e667, 0xbb67ae85, 0x3c6ef372, 0xa54ff53a, 0x510e527f, 0x9b05688c, 0x1f83d9ab, 0x5be0cd19⟩
theorem squares_ok : squares.ok := by unfold St.ok; decide

/-- Eight words behind one more block. -/
def comp (s : St) (b : List UInt8) : St := s.add (steps cubes (sched b 64) s 64)
theorem comp_ok (s : St) (b : List UInt8) : (comp s b).ok := St.add_ok _ _
/-- Eight words behind the first so many blocks of a text. -/
def comps (s : St) (l : List UInt8) : Nat → St
  | 0 => s
  | n + 1 => comp (comps s l n) ((l.drop (64 * n)).take 64)
theorem comps_ok {s : St} (h : s.ok) (l : List UInt8) : ∀ n, (comps s l n).ok
  | 0 => h
  | _ + 1 => comp_ok _ _
theorem comps_take (s : St) (l l' : List UInt8) : ∀ n, 64 * n ≤ l.length → comps s (l ++ l') n = comps s l n
  | 0, _ => rfl
  | n + 1, h => by
    rw [comps, comps, comps_take s l l' n (by omega), List.drop_append_of_le_length (by omega), List.take_append_of_le_length (by simp; omega)]
theorem comps_go (s : St) (l l' : List UInt8) (m : Nat) (h : l.length = 64 * m) : ∀ n, comps s (l ++ l') (m + n) = comps (comps s l m) l' n
  | 0 => comps_take s l l' m (by omega)
  | n + 1 => by
    rw [← Nat.add_assoc, comps, comps, comps_go s l l' m h n]
    congr 2
    rw [show 64 * (m + n) = l.length + 64 * n by omega, ← List.drop_drop]
    simp

/-- A word's four bytes, the greatest first. -/
def four (x : Nat) : List UInt8 := [(x / 16777216).toUInt8, (x / 65536).toUInt8, (x / 256).toUInt8, x.toUInt8]
def St.bytes (s : St) : List UInt8 := s.list.flatMap four
theorem St.bytes_len (s : St) : s.bytes.length = 32 := rfl
/-- How many noughts are added. -/
def noughts (n : Nat) : Nat := 63 - (n % 64 + 8) % 64
/-- A number's eight bytes, the greatest first. -/
def count (n : Nat) : List UInt8 := [(n / 2 ^ 56).toUInt8, (n / 2 ^ 48).toUInt8, (n / 2 ^ 40).toUInt8, (n / 2 ^ 32).toUInt8, (n / 2 ^ 24).toUInt8, (n / 2 ^ 16).toUInt8, (n / 2 ^ 8).toUInt8, n.toUInt8]
/-- What is added to a text of so many bytes. -/
def ending (n : Nat) : List UInt8 := 128 :: (List.replicate (noughts n) 0 ++ count (n * 8))
theorem ending_len (n : Nat) : (ending n).length = 9 + noughts n := by simp [ending, count]; omega
theorem ending_whole (n : Nat) : (n + (ending n).length) % 64 = 0 := by rw [ending_len]; unfold noughts; omega
/-- The sum of a text: P6.1. -/
def sumL (l : List UInt8) : List UInt8 := (comps squares (l ++ ending l.length) ((l.length + (ending l.length).length) / 64)).bytes
theorem sumL_len (l : List UInt8) : (sumL l).length = 32 := St.bytes_len _

/-- A digit of four bits. -/
def dig (n : Nat) : UInt8 := if n < 10 then (48 + n).toUInt8 else (87 + n).toUInt8
theorem dig_inj : ∀ m, m < 16 → ∀ n, n < 16 → dig m = dig n → m = n := by decide +kernel
/-- Bytes in digits: P6.2. -/
def hexL (l : List UInt8) : List UInt8 := l.flatMap fun b => [dig (b.toNat / 16), dig (b.toNat % 16)]
theorem hexL_nil : hexL [] = [] := rfl
theorem hexL_cons (b : UInt8) (l : List UInt8) : hexL (b :: l) = dig (b.toNat / 16) :: dig (b.toNat % 16) :: hexL l := rfl
theorem hexL_append (l m : List UInt8) : hexL (l ++ m) = hexL l ++ hexL m := by simp [hexL]
theorem hexL_len : ∀ l, (hexL l).length = 2 * l.length
  | [] => rfl
  | b :: l => by rw [hexL_cons]; simp [hexL_len l]; omega
theorem hexL_inj : ∀ l m, hexL l = hexL m → l = m
  | [], [], _ => rfl
  | [], b :: m, h => by rw [hexL_cons] at h; cases h
  | b :: l, [], h => by rw [hexL_cons] at h; cases h
  | b :: l, c :: m, h => by
    rw [hexL_cons, hexL_cons] at h
    injection h with h1 h
    injection h with h2 h
    have hb : b.toNat < 256 := UInt8.toNat_lt _
    have hc : c.toNat < 256 := UInt8.toNat_lt _
    have e1 := dig_inj _ (by omega) _ (by omega) h1
    have e2 := dig_inj _ (by omega) _ (by omega) h2
    rw [hexL_inj l m h, UInt8.toNat_inj.1 (show b.toNat = c.toNat by omega)]
/-- The bytes whose digits begin a text of digits. -/
theorem hexL_take : ∀ (l : List UInt8) (k : Nat), hexL (l.take k) = (hexL l).take (2 * k)
  | _, 0 => by simp [hexL]
  | [], k + 1 => by simp [hexL]
  | b :: l, k + 1 => by rw [List.take_succ_cons, hexL_cons, hexL_cons, hexL_take l k, show 2 * (k + 1) = 2 * k + 1 + 1 by omega, List.take_succ_cons, List.take_succ_cons]
theorem hexL_drop : ∀ (l : List UInt8) (k : Nat), hexL (l.drop k) = (hexL l).drop (2 * k)
  | _, 0 => by simp
  | [], k + 1 => by simp [hexL]
  | b :: l, k + 1 => by rw [List.drop_succ_cons, hexL_cons, hexL_drop l k, show 2 * (k + 1) = 2 * k + 1 + 1 by omega, List.drop_succ_cons, List.drop_succ_cons]
end Go.Proofs.YthopegokjbibmaaDoor.Sha
