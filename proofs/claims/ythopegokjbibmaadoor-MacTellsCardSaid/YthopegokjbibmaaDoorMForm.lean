/- Tokens as bytes: what is put is got where it stands, what is got is put as it stands, no beginning is got; no program. -/
import Derived.Test.YthopegokjbibmaaDoorMMath
namespace Go.Proofs.YthopegokjbibmaaDoor.Mac
open Go.RowKit Go.Proofs.YthopegokjbibmaaDoor.Sha

theorem getV_more {l : List UInt8} {p : Int} {x : Nat × Nat} (t : List UInt8) (h : Wire.getV l p = some x) : Wire.getV (l ++ t) p = some x := by
  obtain ⟨u, n⟩ := x
  obtain ⟨_, hlt, hle, hp, hn, hst⟩ := Wire.getV_lt h
  obtain ⟨a, rfl⟩ := Int.eq_ofNat_of_zero_le hp
  simp only [Int.toNat_natCast] at hlt hn hst
  have : Wire.Stands u ((l ++ t).drop a) := by
    rw [List.drop_append_of_le_length (by omega)]
    obtain ⟨h1, r, hr⟩ := hst
    exact ⟨h1, r ++ t, by rw [hr, List.append_assoc]⟩
  rw [Wire.getV_of this, hn]
theorem textV_more {l : List UInt8} {p : Int} {x : Nat × Nat} (t : List UInt8) (h : Wire.textV l p 32 = some x) : Wire.textV (l ++ t) p 32 = some x := by
  unfold Wire.textV at h ⊢
  split at h
  · simp at h
  rename_i y hy
  rw [getV_more t hy]
  simp only
  split at h
  · simp at h
  rename_i hc
  rw [if_neg (by rw [List.length_append]; omega)]
  exact h
theorem getC_more {l : List UInt8} {p : Nat} {x : Cav × Nat} (t : List UInt8) (h : getC l p = some x) : getC (l ++ t) p = some x := by
  unfold getC at h ⊢
  split at h
  · simp at h
  rename_i k hk
  rw [getV_more t hk]
  simp only
  split at h
  · simp at h
  rename_i h2
  rw [if_neg h2]
  split at h
  · simp at h
  rename_i n hn
  rw [getV_more t hn]
  exact h
theorem getN_more {l : List UInt8} (t : List UInt8) : ∀ {n p : Nat} {x : List Cav × Nat}, getN l n p = some x → getN (l ++ t) n p = some x
  | 0, p, x, h => h
  | n + 1, p, x, h => by
    unfold getN at h ⊢
    split at h
    · simp at h
    rename_i y hy
    rw [getC_more t hy]
    simp only
    split at h
    · simp at h
    rename_i z hz
    rw [getN_more t hz]
    exact h
theorem getCs_more {l : List UInt8} {p : Nat} {x : List Cav × Nat} (t : List UInt8) (h : getCs l p = some x) : getCs (l ++ t) p = some x := by
  unfold getCs at h ⊢
  split at h
  · simp at h
  rename_i k hk
  rw [getV_more t hk]
  simp only
  split at h
  · simp at h
  rename_i h2
  rw [if_neg h2]
  exact getN_more t h
theorem getCs_lt {s : List UInt8} {p : Nat} {cs : List Cav} {q : Nat} (h : getCs s p = some (cs, q)) : (∀ c ∈ cs, Fair c) ∧ cs.length ≤ 8 ∧ p < q ∧ q ≤ s.length := by
  unfold getCs at h
  split at h
  · simp at h
  rename_i n hn
  split at h
  · simp at h
  have h1 := Wire.getV_lt hn
  have h2 := getN_lt h1.2.2.1 h
  exact ⟨h2.1, by omega, by omega, h2.2.2.2⟩
theorem textV_lt {s : List UInt8} {p : Int} {a b : Nat} (h : Wire.textV s p 32 = some (a, b)) : a ≤ b ∧ b ≤ s.length ∧ b ≤ a + 32 := by
  unfold Wire.textV at h
  split at h
  · simp at h
  rename_i x hx
  split at h
  · simp at h
  rename_i hc
  simp only [Option.some.injEq, Prod.mk.injEq] at h
  obtain ⟨rfl, rfl⟩ := h
  omega
theorem slice_more {l t : List UInt8} {a n : Nat} (h : a + n ≤ l.length) : ((l ++ t).drop a).take n = (l.drop a).take n := by
  rw [List.drop_append_of_le_length (by omega), List.take_append_of_le_length (by rw [List.length_drop]; omega)]
theorem getT_lt {s : List UInt8} {p : Int} {a b q : Nat} {cs : List Cav} (h : getT s p = some ((a, b), cs, q)) :
    Wire.textV s p 32 = some (a, b) ∧ getCs s b = some (cs, q) ∧ q + 32 ≤ s.length ∧ formL ((s.drop a).take (b - a)) cs ((s.drop q).take 32) = true := by
  unfold getT at h
  split at h
  · simp at h
  rename_i x hx
  split at h
  · simp at h
  rename_i y hy
  split at h
  · simp at h
  split at h
  · rename_i hl hf
    simp only [Option.some.injEq, Prod.mk.injEq] at h
    obtain ⟨rfl, rfl, rfl⟩ := h
    exact ⟨hx, hy, by omega, hf⟩
  · simp at h
theorem getT_of {s : List UInt8} {p : Int} {a b q : Nat} {cs : List Cav} (h1 : Wire.textV s p 32 = some (a, b)) (h2 : getCs s b = some (cs, q)) (h3 : q + 32 ≤ s.length) (h4 : formL ((s.drop a).take (b - a)) cs ((s.drop q).take 32) = true) : getT s p = some ((a, b), cs, q) := by
  unfold getT
  rw [h1]
  simp only [h2]
  rw [if_neg (by omega), if_pos h4]
/-- What is got is got also with bytes behind. -/
theorem getT_more {l : List UInt8} {p : Int} {x : (Nat × Nat) × List Cav × Nat} (t : List UInt8) (h : getT l p = some x) : getT (l ++ t) p = some x := by
  obtain ⟨⟨a, b⟩, cs, q⟩ := x
  obtain ⟨h1, h2, h3, h4⟩ := getT_lt h
  have h5 := textV_lt h1
  exact getT_of (textV_more t h1) (getCs_more t h2) (by rw [List.length_append]; omega) (by rw [slice_more (by omega), slice_more h3]; exact h4)

theorem form_parts {ten : List UInt8} {cs : List Cav} {sig : List UInt8} (h : formL ten cs sig = true) : Word.right ten = true ∧ cs.length ≤ 8 ∧ (∀ c ∈ cs, c.1 = 1 ∨ c.1 = 2) ∧ sig.length = 32 := by
  unfold formL mayL at h
  simp only [Bool.and_eq_true, decide_eq_true_eq, Bool.not_eq_true'] at h
  obtain ⟨h1, ⟨h2, h3⟩, h4⟩ := h
  refine ⟨h1, h2, fun c hc => ?_, h4⟩
  have := List.any_eq_false.1 h3 c hc
  unfold strange at this
  simp only [Bool.and_eq_true, decide_eq_true_eq] at this
  omega
theorem getC_put {l : List UInt8} {p : Nat} {c : Cav} {r : List UInt8} (hk : c.1 = 1 ∨ c.1 = 2) (hn : c.2 < 18446744073709551616) (h : l.drop p = putC c ++ r) : getC l p = some (c, p + (putC c).length) := by
  obtain ⟨k, n⟩ := c
  have hk' : k = 1 ∨ k = 2 := hk
  obtain ⟨m, rfl⟩ : ∃ m : Nat, k = (m : Int) := ⟨k.toNat, by omega⟩
  have hm : m ≤ 2 := by omega
  have e : putC ((m : Int), n) = Wire.putL m ++ Wire.putL n := by unfold putC; rw [k64_of (by omega)]
  rw [e] at h ⊢
  have s1 : Wire.Stands m (l.drop p) := ⟨by omega, Wire.putL n ++ r, by rw [h, List.append_assoc]⟩
  have s2 : Wire.Stands n (l.drop (p + (Wire.putL m).length)) := ⟨hn, r, by rw [← List.drop_drop, h, List.append_assoc, List.drop_left]⟩
  unfold getC
  rw [Wire.getV_of s1]
  simp only
  rw [if_neg (by omega), Wire.getV_of s2]
  simp only [List.length_append, Nat.add_assoc]
theorem getN_put {l : List UInt8} : ∀ (cs : List Cav) {p : Nat} {r : List UInt8}, (∀ c ∈ cs, c.1 = 1 ∨ c.1 = 2) → (∀ c ∈ cs, Fair c) → l.drop p = bodyL cs ++ r → getN l cs.length p = some (cs, p + (bodyL cs).length)
  | [], p, r, _, _, h => by simp [getN, bodyL]
  | c :: cs, p, r, hk, hf, h => by
    have e : bodyL (c :: cs) = putC c ++ bodyL cs := by simp [bodyL]
    rw [e, List.append_assoc] at h
    have h2 : l.drop (p + (putC c).length) = bodyL cs ++ r := by rw [← List.drop_drop, h, List.drop_left]
    rw [List.length_cons, getN, getC_put (hk c (List.mem_cons_self ..)) (hf c (List.mem_cons_self ..)).2.2 h]
    simp only
    rw [getN_put cs (fun x hx => hk x (List.mem_cons_of_mem _ hx)) (fun x hx => hf x (List.mem_cons_of_mem _ hx)) h2, e]
    simp only [List.length_append, Nat.add_assoc]
theorem right_short {l : List UInt8} (h : Word.right l = true) : l.length ≤ 32 := (Word.right_free h).2
/-- What is put is got where it stands. -/
theorem get_put {s ten sig : List UInt8} {cs : List Cav} {p : Nat} {r : List UInt8} (hf : formL ten cs sig = true) (hfair : ∀ c ∈ cs, Fair c) (h : s.drop p = putT ten cs sig ++ r) :
    ∃ a b q, getT s (p : Int) = some ((a, b), cs, q) ∧ (s.drop a).take (b - a) = ten ∧ (s.drop q).take 32 = sig ∧ q + 32 = p + (putT ten cs sig).length ∧ p ≤ a ∧ a ≤ b ∧ b ≤ q := by
  obtain ⟨h1, h2, h3, h4⟩ := form_parts hf
  have ht := right_short h1
  have e : putT ten cs sig = Wire.putL ten.length ++ (ten ++ (Wire.putL cs.length ++ (bodyL cs ++ sig))) := by unfold putT; rw [if_pos hf]; simp only [List.append_assoc]
  rw [e] at h ⊢
  simp only [List.append_assoc] at h
  have s1 : Wire.Stands ten.length (s.drop p) := ⟨by omega, _, h⟩
  have d1 : s.drop (p + (Wire.putL ten.length).length) = ten ++ (Wire.putL cs.length ++ (bodyL cs ++ (sig ++ r))) := by rw [← List.drop_drop, h, List.drop_left]
  have d2 : s.drop (p + (Wire.putL ten.length).length + ten.length) = Wire.putL cs.length ++ (bodyL cs ++ (sig ++ r)) := by rw [← List.drop_drop, d1, List.drop_left]
  have s2 : Wire.Stands cs.length (s.drop (p + (Wire.putL ten.length).length + ten.length)) := ⟨by omega, _, d2⟩
  have d3 : s.drop (p + (Wire.putL ten.length).length + ten.length + (Wire.putL cs.length).length) = bodyL cs ++ (sig ++ r) := by rw [← List.drop_drop, d2, List.drop_left]
  have d4 : s.drop (p + (Wire.putL ten.length).length + ten.length + (Wire.putL cs.length).length + (bodyL cs).length) = sig ++ r := by rw [← List.drop_drop, d3, List.drop_left]
  have hlen := congrArg List.length d4
  rw [List.length_drop, List.length_append, h4] at hlen
  have hl1 := congrArg List.length d1
  simp only [List.length_drop, List.length_append, h4] at hl1
  refine ⟨_, _, _, getT_of (a := p + (Wire.putL ten.length).length) (b := p + (Wire.putL ten.length).length + ten.length) (q := p + (Wire.putL ten.length).length + ten.length + (Wire.putL cs.length).length + (bodyL cs).length) ?_ ?_ ?_ ?_, ?_, ?_, ?_, by omega, by omega, by omega⟩
  · unfold Wire.textV
    rw [Wire.getV_of s1]
    simp only
    rw [if_neg (by omega)]
  · unfold getCs
    rw [Wire.getV_of s2]
    simp only
    rw [if_neg (by omega)]
    exact getN_put cs h3 hfair d3
  · omega
  · rw [d1, d4, Nat.add_sub_cancel_left, List.take_left, ← h4, List.take_left]
    exact hf
  · rw [d1, Nat.add_sub_cancel_left, List.take_left]
  · rw [d4, ← h4, List.take_left]
  · simp only [List.length_append]
    omega

theorem getC_back {l : List UInt8} {p : Nat} {c : Cav} {q : Nat} (h : getC l p = some (c, q)) : l.drop p = putC c ++ l.drop q := by
  unfold getC at h
  split at h
  · simp at h
  rename_i k hk
  split at h
  · simp at h
  rename_i hk2
  split at h
  · simp at h
  rename_i n hn
  simp only [Option.some.injEq, Prod.mk.injEq] at h
  obtain ⟨rfl, rfl⟩ := h
  obtain ⟨_, _, _, _, e1, _, r1, hr1⟩ := Wire.getV_lt (u := k.1) (n := k.2) hk
  obtain ⟨_, _, _, _, e2, _, r2, hr2⟩ := Wire.getV_lt (u := n.1) (n := n.2) hn
  simp only [Int.toNat_natCast] at e1 hr1 e2 hr2
  have d1 : l.drop k.2 = r1 := by rw [e1, ← List.drop_drop, hr1, List.drop_left]
  have d2 : l.drop n.2 = r2 := by rw [e2, ← List.drop_drop, hr2, List.drop_left]
  unfold putC
  rw [k64_of (by omega), List.append_assoc, d2, ← hr2, d1, hr1]
theorem getN_back {l : List UInt8} : ∀ {n p : Nat} {cs : List Cav} {q : Nat}, getN l n p = some (cs, q) → l.drop p = bodyL cs ++ l.drop q
  | 0, p, cs, q, h => by
    simp only [getN, Option.some.injEq, Prod.mk.injEq] at h
    obtain ⟨rfl, rfl⟩ := h
    simp [bodyL]
  | n + 1, p, cs, q, h => by
    unfold getN at h
    split at h
    · simp at h
    rename_i x hx
    split at h
    · simp at h
    rename_i y hy
    simp only [Option.some.injEq, Prod.mk.injEq] at h
    obtain ⟨rfl, rfl⟩ := h
    rw [getC_back (c := x.1) (q := x.2) hx, getN_back (cs := y.1) (q := y.2) hy]
    simp [bodyL]
/-- What is got is put as the bytes that stand there. -/
theorem get_back {s : List UInt8} {p : Int} {a b q : Nat} {cs : List Cav} (h : getT s p = some ((a, b), cs, q)) :
    0 ≤ p ∧ p.toNat < q ∧ q + 32 ≤ s.length ∧ formL ((s.drop a).take (b - a)) cs ((s.drop q).take 32) = true ∧ (∀ c ∈ cs, Fair c) ∧
      putT ((s.drop a).take (b - a)) cs ((s.drop q).take 32) = (s.drop p.toNat).take (q + 32 - p.toNat) := by
  obtain ⟨h1, h2, h3, h4⟩ := getT_lt h
  have hlt := textV_lt h1
  have hcl := getCs_lt h2
  unfold Wire.textV at h1
  split at h1
  · simp at h1
  rename_i x hx
  split at h1
  · simp at h1
  rename_i hc
  obtain ⟨u, n⟩ := x
  simp only [Option.some.injEq, Prod.mk.injEq] at h1 hc
  obtain ⟨rfl, rfl⟩ := h1
  obtain ⟨_, hpn, hnl, hp, e1, _, r1, hr1⟩ := Wire.getV_lt hx
  unfold getCs at h2
  split at h2
  · simp at h2
  rename_i y hy
  split at h2
  · simp at h2
  obtain ⟨v, m⟩ := y
  obtain ⟨_, _, hml, _, e2, _, r2, hr2⟩ := Wire.getV_lt hy
  simp only [Int.toNat_natCast] at e2 hr2
  have hb := getN_back h2
  have hcv : cs.length = v := (getN_lt (by simp only; exact hml) h2).2.1
  simp only at hb hcv
  have d1 : s.drop n = r1 := by rw [e1, ← List.drop_drop, hr1, List.drop_left]
  have d2 : s.drop m = r2 := by rw [e2, ← List.drop_drop, hr2, List.drop_left]
  have hten : ((s.drop n).take (n + u - n)).length = u := by rw [List.length_take, List.length_drop]; omega
  have e : s.drop p.toNat = putT ((s.drop n).take (n + u - n)) cs ((s.drop q).take 32) ++ s.drop (q + 32) := by
    unfold putT
    rw [if_pos h4, hten, hcv, hr1]
    simp only [List.append_assoc]
    rw [← List.drop_drop, List.take_append_drop, ← hb, d2, ← hr2, ← List.drop_drop, Nat.add_sub_cancel_left, List.take_append_drop, d1]
  refine ⟨hp, by omega, h3, h4, hcl.1, ?_⟩
  have hl := congrArg List.length e
  rw [List.length_append, List.length_drop, List.length_drop] at hl
  rw [e, show q + 32 - p.toNat = (putT ((s.drop n).take (n + u - n)) cs ((s.drop q).take 32)).length by omega, List.take_left]
/-- No beginning of what is put is got. -/
theorem get_torn {ten sig : List UInt8} {cs : List Cav} {k : Nat} (hf : formL ten cs sig = true) (hfair : ∀ c ∈ cs, Fair c) (hk : k < (putT ten cs sig).length) : getT ((putT ten cs sig).take k) 0 = none := by
  cases hg : getT ((putT ten cs sig).take k) 0 with
  | none => rfl
  | some x =>
    obtain ⟨⟨a, b⟩, cs', q⟩ := x
    have h1 := getT_more ((putT ten cs sig).drop k) hg
    rw [List.take_append_drop] at h1
    obtain ⟨a', b', q', h2, _, _, h3, _⟩ := get_put (s := putT ten cs sig) (p := 0) (r := []) hf hfair (by simp)
    rw [show ((0 : Nat) : Int) = 0 from rfl, h1] at h2
    simp only [Option.some.injEq, Prod.mk.injEq] at h2
    have h4 := (getT_lt hg).2.2.1
    rw [List.length_take] at h4
    omega
end Go.Proofs.YthopegokjbibmaaDoor.Mac
