/- Tokens that may be narrowed, by plain functions: what is signed, a chain of caveats, which may be, what they let, and their form as bytes; of no program. -/
import Derived.Test.YthopegokjbibmaaDoorText
import Derived.Test.YthopegokjbibmaaDoorHSum
import Derived.Test.YthopegokjbibmaaDoorWMath
namespace Go.Proofs.YthopegokjbibmaaDoor.Mac
open Go.RowKit Go.Proofs.YthopegokjbibmaaDoor.Sha

/-- A caveat: its Kind and its N. -/
abbrev Cav := Int × Nat
def Fair (c : Cav) : Prop := -9223372036854775808 ≤ c.1 ∧ c.1 ≤ 9223372036854775807 ∧ c.2 < 18446744073709551616
/-- A Kind modulo 2^64. -/
def k64 (k : Int) : Nat := (k % 18446744073709551616).toNat
theorem k64_lt (k : Int) : k64 k < 18446744073709551616 := by unfold k64; omega
theorem k64_int (k : Int) : (k64 k : Int) = k % 18446744073709551616 := by unfold k64; omega
theorem k64_of {k : Nat} (h : k < 18446744073709551616) : k64 (k : Int) = k := by unfold k64; omega
/-- A caveat's form. -/
def putC (c : Cav) : List UInt8 := Wire.putL (k64 c.1) ++ Wire.putL c.2
theorem putC_len {c : Cav} (h : c.2 < 18446744073709551616) : (putC c).length ≤ 20 := by
  unfold putC
  rw [List.length_append]
  have := Wire.putL_ten (k64_lt c.1)
  have := Wire.putL_ten h
  omega
/-- A key with noughts behind to a block. -/
def padL (k : List UInt8) : List UInt8 := k ++ List.replicate (64 - k.length) 0
/-- A block of a key, each byte xor one. -/
def mixL (k : List UInt8) (x : UInt8) : List UInt8 := (padL k).map (· ^^^ x)
def keyL (k : List UInt8) : List UInt8 := if 64 < k.length then sumL k else k
theorem keyL_len (k : List UInt8) : (keyL k).length ≤ 64 := by
  unfold keyL
  split
  · rw [sumL_len]; omega
  · omega
theorem padL_len {k : List UInt8} (h : k.length ≤ 64) : (padL k).length = 64 := by unfold padL; simp; omega
theorem mixL_len {k : List UInt8} (h : k.length ≤ 64) (x : UInt8) : (mixL k x).length = 64 := by unfold mixL; rw [List.length_map, padL_len h]
/-- P7.1. -/
def signL (key s : List UInt8) : List UInt8 := sumL (mixL (keyL key) 0x5c ++ sumL (mixL (keyL key) 0x36 ++ s))
theorem signL_len (key s : List UInt8) : (signL key s).length = 32 := sumL_len _
/-- A sum, narrowed by caveats. -/
def chainL (sig : List UInt8) (cs : List Cav) : List UInt8 := cs.foldl (fun s c => signL s (putC c)) sig
theorem chainL_snoc (sig : List UInt8) (cs : List Cav) (c : Cav) : chainL sig (cs ++ [c]) = signL (chainL sig cs) (putC c) := by unfold chainL; rw [List.foldl_append]; rfl
theorem chainL_len {sig : List UInt8} (h : sig.length = 32) (cs : List Cav) : (chainL sig cs).length = 32 := by
  unfold chainL
  induction cs generalizing sig with
  | nil => exact h
  | cons c r ih => exact ih (signL_len _ _)
def strange (c : Cav) : Bool := decide (c.1 ≠ 1) && decide (c.1 ≠ 2)
/-- May a token have these? -/
def mayL (cs : List Cav) : Bool := decide (cs.length ≤ 8) && !cs.any strange
/-- P7.2. -/
def checkL (key ten : List UInt8) (cs : List Cav) (sig : List UInt8) : Bool := mayL cs && decide (chainL (signL key ten) cs = sig)
def letsB (right round : Nat) (c : Cav) : Bool := if c.1 = 1 then decide (c.2 &&& right = right) else if c.1 = 2 then decide (round ≤ c.2) else true
/-- P7.3. -/
def allowsL (cs : List Cav) (right round : Nat) : Bool := cs.all (letsB right round)
def formL (ten : List UInt8) (cs : List Cav) (sig : List UInt8) : Bool := Word.right ten && (mayL cs && decide (sig.length = 32))
def bodyL (cs : List Cav) : List UInt8 := cs.flatMap putC
/-- P7.4: the form of a token. -/
def putT (ten : List UInt8) (cs : List Cav) (sig : List UInt8) : List UInt8 :=
  if formL ten cs sig = true then (Wire.putL ten.length ++ ten) ++ Wire.putL cs.length ++ bodyL cs ++ sig else []
theorem bodyL_snoc (cs : List Cav) (c : Cav) : bodyL (cs ++ [c]) = bodyL cs ++ putC c := by simp [bodyL]
theorem bodyL_len : ∀ {cs : List Cav}, (∀ c ∈ cs, Fair c) → (bodyL cs).length ≤ 20 * cs.length
  | [], _ => by simp [bodyL]
  | c :: r, h => by
    have h1 := putC_len (h c (List.mem_cons_self ..)).2.2
    have h2 := bodyL_len (cs := r) fun x hx => h x (List.mem_cons_of_mem _ hx)
    have : bodyL (c :: r) = putC c ++ bodyL r := by simp [bodyL]
    rw [this, List.length_append, List.length_cons]
    omega

/-- The caveat whose form stands at a place, and the place behind. -/
def getC (s : List UInt8) (p : Nat) : Option (Cav × Nat) :=
  match Wire.getV s p with
  | none => none
  | some k => if 2 < k.1 then none else match Wire.getV s k.2 with
    | none => none
    | some n => some (((k.1 : Int), n.1), n.2)
def getN (s : List UInt8) : Nat → Nat → Option (List Cav × Nat)
  | 0, p => some ([], p)
  | n + 1, p => match getC s p with
    | none => none
    | some x => match getN s n x.2 with
      | none => none
      | some y => some (x.1 :: y.1, y.2)
def getCs (s : List UInt8) (p : Nat) : Option (List Cav × Nat) :=
  match Wire.getV s p with
  | none => none
  | some n => if 8 < n.1 then none else getN s n.1 n.2
/-- P7.4: the token whose form stands at a place: where its tenant's bytes begin and end, its caveats, and where its sum begins. -/
def getT (s : List UInt8) (p : Int) : Option ((Nat × Nat) × List Cav × Nat) :=
  match Wire.textV s p 32 with
  | none => none
  | some a => match getCs s a.2 with
    | none => none
    | some b => if s.length < b.2 + 32 then none else
      if formL ((s.drop a.1).take (a.2 - a.1)) b.1 ((s.drop b.2).take 32) = true then some (a, b.1, b.2) else none
theorem getC_lt {s : List UInt8} {p : Nat} {c : Cav} {q : Nat} (h : getC s p = some (c, q)) : Fair c ∧ 0 ≤ c.1 ∧ c.1 ≤ 2 ∧ p < q ∧ q ≤ s.length := by
  unfold getC at h
  split at h
  · simp at h
  rename_i k hk
  split at h
  · simp at h
  rename_i hk2
  split at h
  · simp at h
  rename_i n hn
  simp only [Option.some.injEq, Prod.mk.injEq] at h
  obtain ⟨rfl, rfl⟩ := h
  have h1 := Wire.getV_lt hk
  have h2 := Wire.getV_lt hn
  exact ⟨⟨by simp only; omega, by simp only; omega, h2.1⟩, by simp only; omega, by simp only; omega, by omega, h2.2.2.1⟩
theorem getN_lt {s : List UInt8} : ∀ {n p : Nat} {cs : List Cav} {q : Nat}, p ≤ s.length → getN s n p = some (cs, q) → (∀ c ∈ cs, Fair c) ∧ cs.length = n ∧ p ≤ q ∧ q ≤ s.length
  | 0, p, cs, q, hp, h => by
    simp only [getN, Option.some.injEq, Prod.mk.injEq] at h
    obtain ⟨rfl, rfl⟩ := h
    exact ⟨fun c hc => by simp at hc, rfl, Nat.le_refl _, hp⟩
  | n + 1, p, cs, q, hp, h => by
    unfold getN at h
    split at h
    · simp at h
    rename_i x hx
    split at h
    · simp at h
    rename_i y hy
    simp only [Option.some.injEq, Prod.mk.injEq] at h
    obtain ⟨rfl, rfl⟩ := h
    have h1 := getC_lt (c := x.1) (q := x.2) hx
    have h2 := getN_lt h1.2.2.2.2 hy
    refine ⟨fun c hc => ?_, by rw [List.length_cons, h2.2.1], by omega, h2.2.2.2⟩
    rcases List.mem_cons.1 hc with rfl | hc
    · exact h1.1
    · exact h2.1 c hc
theorem getN_snoc {s : List UInt8} : ∀ {n p : Nat} {cs : List Cav} {q : Nat}, getN s n p = some (cs, q) → getN s (n + 1) p = (match getC s q with | none => none | some x => some (cs ++ [x.1], x.2))
  | 0, p, cs, q, h => by
    simp only [getN, Option.some.injEq, Prod.mk.injEq] at h
    obtain ⟨rfl, rfl⟩ := h
    simp only [getN]
    cases getC s p <;> rfl
  | n + 1, p, cs, q, h => by
    rw [getN] at h ⊢
    split at h
    · simp at h
    rename_i x hx
    split at h
    · simp at h
    rename_i y hy
    simp only [Option.some.injEq, Prod.mk.injEq] at h
    obtain ⟨rfl, rfl⟩ := h
    rw [getN_snoc (cs := y.1) (q := y.2) hy]
    cases getC s y.2 <;> rfl
theorem getN_none {s : List UInt8} : ∀ {n p : Nat} (m : Nat), getN s n p = none → getN s (n + m) p = none
  | 0, p, m, h => by simp [getN] at h
  | n + 1, p, m, h => by
    rw [show n + 1 + m = (n + m) + 1 by omega]
    rw [getN] at h ⊢
    split at h
    · rfl
    rename_i x hx
    split at h
    · rename_i hy
      rw [getN_none m hy]
    · simp at h
end Go.Proofs.YthopegokjbibmaaDoor.Mac
