/- Records by plain numbers: what is put, what stands at a place, and all of them, one behind another; of no program. -/
import Derived.Test.YtlifobfbaiabgaaFMath
namespace Go.Proofs.Ytlifobfbaiabgaa.Frame

def four (n : Nat) : List UInt8 := [(n / 16777216).toUInt8, (n / 65536).toUInt8, (n / 256).toUInt8, n.toUInt8]
theorem four_len (n : Nat) : (four n).length = 4 := rfl
def fourV (l : List UInt8) : Nat := (((l.getD 0 0).toNat * 256 + (l.getD 1 0).toNat) * 256 + (l.getD 2 0).toNat) * 256 + (l.getD 3 0).toNat
theorem fourV_four {n : Nat} (h : n < 4294967296) (r : List UInt8) : fourV (four n ++ r) = n := by
  simp [fourV, four]
  omega
theorem four_fourV {l : List UInt8} (h : 4 ≤ l.length) : four (fourV l) = l.take 4 := by
  match l, h with
  | a :: b :: c :: d :: r, _ =>
    have h0 := a.toNat_lt
    have h1 := b.toNat_lt
    have h2 := c.toNat_lt
    have h3 := d.toNat_lt
    simp only [fourV, four, List.getD_cons_zero, List.getD_cons_succ, List.take_succ_cons, List.take_zero, List.cons.injEq, and_true]
    refine ⟨?_, ?_, ?_, ?_⟩ <;> apply UInt8.toNat_inj.1 <;> simp <;> omega
theorem fourV_lt (l : List UInt8) : fourV l < 4294967296 := by
  unfold fourV
  have h0 := (l.getD 0 0).toNat_lt
  have h1 := (l.getD 1 0).toNat_lt
  have h2 := (l.getD 2 0).toNat_lt
  have h3 := (l.getD 3 0).toNat_lt
  omega
/-- P8.2: a record. -/
def putF (b : List UInt8) : List UInt8 := if 65536 < b.length then [] else four b.length ++ four (crcL b) ++ b
theorem putF_eq {b : List UInt8} (h : b.length ≤ 65536) : putF b = four b.length ++ four (crcL b) ++ b := by unfold putF; rw [if_neg (by omega)]
theorem putF_len {b : List UInt8} (h : b.length ≤ 65536) : (putF b).length = b.length + 8 := by rw [putF_eq h]; simp [four_len]; omega
/-- The bytes from one place to another. -/
def cut (s : List UInt8) (a b : Nat) : List UInt8 := (s.drop a).take (b - a)
theorem cut_len {s : List UInt8} {a b : Nat} (h : a ≤ b) (hb : b ≤ s.length) : (cut s a b).length = b - a := by unfold cut; rw [List.length_take, List.length_drop]; omega
/-- P8.2: where the body begins and ends whose record stands at a place. -/
def nextF (s : List UInt8) (p : Int) : Option (Nat × Nat) :=
  if p < 0 ∨ (s.length : Int) < p + 8 then none else
    if 65536 < fourV (s.drop p.toNat) ∨ s.length < p.toNat + 8 + fourV (s.drop p.toNat) then none else
      if cut s (p.toNat + 4) (p.toNat + 8) = four (crcL (cut s (p.toNat + 8) (p.toNat + 8 + fourV (s.drop p.toNat)))) then some (p.toNat + 8, p.toNat + 8 + fourV (s.drop p.toNat)) else none
theorem next_lt {s : List UInt8} {p : Int} {a b : Nat} (h : nextF s p = some (a, b)) : 0 ≤ p ∧ a = p.toNat + 8 ∧ b = a + fourV (s.drop p.toNat) ∧ b ≤ s.length ∧ b ≤ a + 65536 ∧ cut s (p.toNat + 4) (p.toNat + 8) = four (crcL (cut s a b)) := by
  unfold nextF at h
  split at h
  · cases h
  split at h
  · cases h
  split at h
  · simp only [Option.some.injEq, Prod.mk.injEq] at h
    obtain ⟨rfl, rfl⟩ := h
    rename_i h1 h2 h3
    exact ⟨by omega, rfl, rfl, by omega, by omega, h3⟩
  · cases h
theorem next_out {s : List UInt8} {p : Int} (h : p < 0 ∨ (s.length : Int) < p + 8) : nextF s p = none := by unfold nextF; rw [if_pos h]
theorem drop_cut {s x y : List UInt8} {p : Nat} (h : s.drop p = x ++ y) {a b : Nat} (hb : b ≤ x.length) : cut s (p + a) (p + b) = cut x a b := by
  unfold cut
  rw [← List.drop_drop, h, Nat.add_sub_add_left]
  by_cases hab : a ≤ x.length
  · rw [List.drop_append_of_le_length hab, List.take_append_of_le_length (by rw [List.length_drop]; omega)]
  · rw [show b - a = 0 by omega]; simp
theorem next_put {s b r : List UInt8} {p : Nat} (hb : b.length ≤ 65536) (h : s.drop p = putF b ++ r) (hp : p ≤ s.length) : nextF s (p : Int) = some (p + 8, p + 8 + b.length) := by
  have hl := congrArg List.length h
  rw [List.length_drop, List.length_append, putF_len hb] at hl
  have hn : fourV (s.drop p) = b.length := by rw [h, putF_eq hb, List.append_assoc, List.append_assoc]; exact fourV_four (by omega) _
  have hs : s.drop p = (four b.length ++ four (crcL b) ++ b) ++ r := by rw [h, putF_eq hb]
  unfold nextF
  rw [if_neg (by omega), Int.toNat_natCast, hn, if_neg (by omega), if_pos]
  have e1 := drop_cut hs (a := 4) (b := 8) (by simp [four_len]; omega)
  have e2 := drop_cut hs (a := 8) (b := 8 + b.length) (by simp [four_len]; omega)
  rw [e1, Nat.add_assoc, e2]
  have c1 : cut (four b.length ++ four (crcL b) ++ b) 4 8 = four (crcL b) := rfl
  have c2 : cut (four b.length ++ four (crcL b) ++ b) 8 (8 + b.length) = b := by
    show (b.take (8 + b.length - 8)) = b
    rw [Nat.add_sub_cancel_left, List.take_length]
  rw [c1, c2]
theorem next_back {s : List UInt8} {p : Int} {a b : Nat} (h : nextF s p = some (a, b)) : putF (cut s a b) = cut s p.toNat b ∧ (cut s a b).length ≤ 65536 := by
  obtain ⟨h0, ha, hb, hs, hm, hc⟩ := next_lt h
  have hl : (cut s a b).length = fourV (s.drop p.toNat) := by rw [cut_len (by omega) hs]; omega
  refine ⟨?_, by rw [hl]; omega⟩
  rw [putF_eq (by rw [hl]; omega), hl, ← hc, four_fourV (by rw [List.length_drop]; omega)]
  unfold cut
  rw [show p.toNat + 8 - (p.toNat + 4) = 4 by omega, show b - p.toNat = 4 + (4 + (b - a)) by omega, List.take_add, List.take_add, List.drop_drop, List.drop_drop, ha, List.append_assoc]
/-- Of a record no beginning is one. -/
theorem next_torn {s b : List UInt8} {p k : Nat} (hb : b.length ≤ 65536) (hp : p ≤ s.length) (hk : k < (putF b).length) (h : s.drop p = (putF b).take k) : nextF s (p : Int) = none := by
  have hl := congrArg List.length h
  rw [List.length_drop, List.length_take, putF_len hb] at hl
  rw [putF_len hb] at hk
  by_cases h8 : k < 8
  · exact next_out (.inr (by omega))
  · have hn : fourV (s.drop p) = b.length := by
      rw [h, putF_eq hb, List.append_assoc, List.take_append, four_len, List.take_of_length_le (by rw [four_len]; omega)]
      exact fourV_four (by omega) _
    unfold nextF
    rw [if_neg (by omega), Int.toNat_natCast, hn, if_pos (.inr (by omega))]

/-- All records from a place on, at most so many: where the bodies begin and end, and the place behind. -/
def allN (s : List UInt8) : Nat → Nat → List (Nat × Nat) × Nat
  | 0, p => ([], p)
  | f + 1, p => match nextF s (p : Int) with
    | none => ([], p)
    | some x => (x :: (allN s f x.2).1, (allN s f x.2).2)
def allL (s : List UInt8) : List (Nat × Nat) × Nat := allN s (s.length + 1) 0
theorem allN_none {s : List UInt8} {p : Nat} (h : nextF s (p : Int) = none) : ∀ f, allN s f p = ([], p)
  | 0 => rfl
  | f + 1 => by unfold allN; rw [h]
theorem allN_some {s : List UInt8} {p : Nat} {x : Nat × Nat} (h : nextF s (p : Int) = some x) (f : Nat) : allN s (f + 1) p = (x :: (allN s f x.2).1, (allN s f x.2).2) := by
  conv => lhs; unfold allN
  rw [h]
/-- More rounds than there is room for tell no more. -/
theorem allN_more {s : List UInt8} : ∀ (f g p : Nat), s.length < p + f → s.length < p + g → allN s f p = allN s g p
  | 0, g, p, h, _ => (allN_none (next_out (.inr (by omega))) g).symm
  | f + 1, 0, p, _, h => allN_none (next_out (.inr (by omega))) (f + 1)
  | f + 1, g + 1, p, h, h' => by
    cases hn : nextF s (p : Int) with
    | none => rw [allN_none hn, allN_none hn]
    | some x =>
      obtain ⟨_, h1, h2, _⟩ := next_lt (a := x.1) (b := x.2) hn
      rw [allN_some hn, allN_some hn, allN_more f g x.2 (by omega) (by omega)]
/-- What was read, and what is still to be read. -/
theorem allN_step {s : List UInt8} {done : List (Nat × Nat)} {p f : Nat} {x : Nat × Nat} (hn : nextF s (p : Int) = some x) (h : (done ++ (allN s (f + 1) p).1, (allN s (f + 1) p).2) = allL s) : ((done ++ [x]) ++ (allN s f x.2).1, (allN s f x.2).2) = allL s := by
  rw [allN_some hn] at h
  rw [← h, List.append_assoc]
  rfl
theorem allN_end {s : List UInt8} {done : List (Nat × Nat)} {p f : Nat} (hn : nextF s (p : Int) = none) (h : (done ++ (allN s f p).1, (allN s f p).2) = allL s) : allL s = (done, p) := by
  rw [← h, allN_none hn, List.append_nil]
/-- P8.3: records, one behind another, are all told. -/
theorem all_puts {s : List UInt8} : ∀ (bs : List (List UInt8)) {p f : Nat} {t : List UInt8}, (∀ b ∈ bs, b.length ≤ 65536) → p ≤ s.length → s.drop p = bs.flatMap putF ++ t → nextF s ((p + (bs.flatMap putF).length : Nat) : Int) = none → s.length < p + f →
    (allN s f p).1.map (fun x => cut s x.1 x.2) = bs ∧ (allN s f p).2 = p + (bs.flatMap putF).length
  | [], p, f, t, _, _, _, hn, _ => by
    rw [allN_none (by simpa using hn)]
    exact ⟨rfl, rfl⟩
  | b :: bs, p, 0, t, hbs, hp, h, hn, hf => by omega
  | b :: bs, p, f + 1, t, hbs, hp, h, hn, hf => by
    have hb := hbs b (List.mem_cons_self ..)
    have h' : s.drop p = putF b ++ (bs.flatMap putF ++ t) := by rw [h, List.flatMap_cons, List.append_assoc]
    have hx := next_put hb h' hp
    have hl := congrArg List.length h'
    rw [List.length_drop, List.length_append, putF_len hb] at hl
    have hd : s.drop (p + 8 + b.length) = bs.flatMap putF ++ t := by
      rw [show p + 8 + b.length = p + (putF b).length by rw [putF_len hb]; omega, ← List.drop_drop, h', List.drop_left]
    rw [allN_some hx]
    have hlen : (List.flatMap putF (b :: bs)).length = b.length + 8 + (bs.flatMap putF).length := by rw [List.flatMap_cons, List.length_append, putF_len hb]
    have ih := all_puts bs (p := p + 8 + b.length) (f := f) (t := t) (fun c hc => hbs c (List.mem_cons_of_mem _ hc)) (by omega) hd (by rw [hlen] at hn; rw [← hn]; congr 1; omega) (by omega)
    refine ⟨?_, by rw [ih.2, hlen]; omega⟩
    rw [List.map_cons, ih.1]
    congr 1
    have hs : s.drop p = (four b.length ++ four (crcL b) ++ b) ++ (bs.flatMap putF ++ t) := by rw [h', putF_eq hb]
    have e2 := drop_cut hs (a := 8) (b := 8 + b.length) (by simp [four_len]; omega)
    simp only
    rw [Nat.add_assoc, e2]
    show (b.take (8 + b.length - 8)) = b
    rw [Nat.add_sub_cancel_left, List.take_length]
end Go.Proofs.Ytlifobfbaiabgaa.Frame
