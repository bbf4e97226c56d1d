/- A selector that is made term by term: its own row, and what lies in it; the step of an append in a region that draws. -/
import Derived.Test.YtcgknkbigbbfdaaDoorSCatch
import Derived.Deep.RegionHeld3
import Derived.Deep.AppendLies
import Derived.Deep.RegionLaw
namespace Go.Proofs.YtcgknkbigbbfdaaDoor.Sel
open Go.RowKit Go.Proofs.YtcgknkbigbbfdaaDoor.Texts Go.Proofs.YtcgknkbigbbfdaaDoor.Word Go.Proofs.YtcgknkbigbbfdaaDoor.Forms Go.Proofs.YtcgknkbigbbfdaaDoor.Boxes

theorem step_own {P : Program} (w : World) {ops : Array Oper} {o : Oper} {a : Act} {K : Act → World → Prop} {Q : Exit → Act → World → Prop} {E : Prop} (hgd : o.guard = none) (s x : Operand) (t : TypeId)
    (ho : o.op = .call { callee := .builtin .append, args := #[s, x], argTypes := #[t, t] })
    (base : Nat) (e : TypeId) (i : TypeInfo) (z : Value) (size bytes : Nat) (ht : P.underlying t = some (.slice e)) (hi : P.info? e = some i) (hz : i.zero = some z)
    (hsize : i.size = size) (hby : i.bytes = bytes) (hzs : z.cells.size = size) (hsz : 0 < size)
    (v : Value) (n : Nat) (xs : List Value) (hs : a.eval s = v) (hown : w.ownsRow base e size v n xs)
    (ad : Addr) (m c : Nat) (news : List Value) (hx : a.eval x = .slice (some ad) m c) (hl : news.length = m * size) (hnews : ∀ j u, news[j]? = some u → w.cell? (ad.add j) = some u) (h1 : ∀ u ∈ news, u.oneCell' = true)
    (h63 : n + m ≤ maxLen) (hbytes : (n + m) * bytes ≤ 140737488355328) (hbase : base ≤ w.heap.size)
    (h : ∀ v' w', w'.ownsRow base e size v' (n + m) (xs ++ news) → w.grownBy w' v.ownBlock → K (a.put o.dst v') w') :
    if Region.wanted o (yielded ops a.tmps) = true then Oper.wp P o a w K Q else E := by
  have hw : Region.wanted o (yielded ops a.tmps) = true := by simp [Region.wanted, hgd]
  rw [if_pos hw]
  exact wp_append_own w s x t ho base e i z size bytes ht hi hz hsize hby hzs hsz v n xs hs hown ad m c news hx hl hnews h1 h63 hbytes hbase fun v' w' h2 h3 _ => h v' w' h2 h3

def tcells (x : Tm × Value) : List Value := [.string x.1.1, .bool x.1.2.1, x.2]
def tvals (xs : List (Tm × Value)) : List Value := xs.flatMap tcells
theorem tvals_snoc (xs : List (Tm × Value)) (x : Tm × Value) : tvals (xs ++ [x]) = tvals xs ++ tcells x := by simp [tvals]
theorem tvals_at : ∀ (xs : List (Tm × Value)) (j : Nat) (x : Tm × Value), xs[j]? = some x → (tvals xs)[j * 3]? = some (.string x.1.1) ∧ (tvals xs)[j * 3 + 1]? = some (.bool x.1.2.1) ∧ (tvals xs)[j * 3 + 2]? = some x.2
  | [], j, x, h => by simp at h
  | a :: r, 0, x, h => by simp at h; subst h; exact ⟨rfl, rfl, rfl⟩
  | a :: r, j + 1, x, h => by
    obtain ⟨h1, h2, h3⟩ := tvals_at r j x (by simpa using h)
    have e : tvals (a :: r) = .string a.1.1 :: .bool a.1.2.1 :: a.2 :: tvals r := rfl
    rw [e, show (j + 1) * 3 = j * 3 + 1 + 1 + 1 by omega]
    exact ⟨h1, h2, h3⟩
theorem own_trow {B : Nat} {T : TypeId} {w : World} {v : Value} {xs : List (Tm × Value)} (h : w.ownsRow B T 3 v xs.length (tvals xs)) (hs : ∀ x ∈ xs, SRow w x.2 x.1.2.2) : TRow w v (xs.map (·.1)) := by
  have hc := fun g hg => h.cells (g := g) hg
  rcases h.2 with ⟨rfl, h0⟩ | ⟨g, cap, cur, rfl, hB, hg, hcap, hm, hsz, htake⟩
  · rw [List.eq_nil_of_length_eq_zero h0]; exact TRow.nil w
  · by_cases hl : xs = []
    · subst hl; exact .inl ⟨rfl, _, _, rfl, hm⟩
    · refine .inr ⟨by simp [hl], g, 0, cap, by rw [List.length_map], (Array.getElem?_eq_some_iff.1 hg).1, by rw [List.length_map]; exact hcap, hm, fun j t hj => ?_⟩
      rw [List.getElem?_map] at hj
      cases hx : xs[j]? with
      | none => rw [hx] at hj; simp at hj
      | some x =>
        rw [hx] at hj
        simp only [Option.map_some, Option.some.injEq] at hj
        subst hj
        obtain ⟨h1, h2, h3⟩ := tvals_at xs j x hx
        have e1 := hc g rfl _ _ h1
        have e2 := hc g rfl _ _ h2
        have e3 := hc g rfl _ _ h3
        rw [Addr.add_lit] at e1 e2 e3
        exact ⟨e1, by rw [Nat.add_assoc]; exact e2, _, by rw [Nat.add_assoc]; exact e3, hs x (List.mem_of_getElem? hx)⟩
theorem infoT : (Tryd.prog.info? 51).map (fun i => (i.zero, i.size, i.bytes)) = some (some (.agg #[.string ByteArray.empty, .bool false, .slice none 0 0]), 3, 48) := by kernel_rfl
theorem new3 (w : World) (a b c : Value) (T : TypeId) : ∀ j u, [a, b, c][j]? = some u → (w.alloc (.cells #[a, b, c] T)).cell? ((⟨w.heap.size, 0, none⟩ : Addr).add j) = some u := fun j u hj => by
  obtain ⟨h1, h2, h3, _⟩ := cells3 (fresh w (.cells #[a, b, c] T))
  rw [Addr.add_lit]
  match j with
  | 0 => simp at hj; subst hj; exact h1
  | 1 => simp at hj; subst hj; exact h2
  | 2 => simp at hj; subst hj; exact h3
  | (n + 3) => simp at hj
theorem one3 (k : ByteArray) (n : Bool) (a : Option Addr) (m c : Nat) : ∀ u ∈ [Value.string k, .bool n, .slice a m c], u.oneCell' = true := fun u hu => by
  simp at hu
  rcases hu with rfl | rfl | rfl <;> rfl
/-- The terms that were made: each value's row stands from a block on. -/
def Made (B : Nat) (w : World) (xs : List (Tm × Value)) : Prop := ∀ x ∈ xs, SNew B w x.2 x.1.2.2
theorem Made.below {B : Nat} {w w' : World} {xs : List (Tm × Value)} (h : Made B w xs) (hb : Below w.heap.size w w') : Made B w' xs := fun x hx => (h x hx).below hb
theorem Made.but {B R : Nat} {w w' : World} {xs : List (Tm × Value)} (h : Made B w xs) (hb : But R w w') (hR : R < B) : Made B w' xs := fun x hx => (h x hx).but hb hR
theorem Made.snoc {B : Nat} {w : World} {xs : List (Tm × Value)} {x : Tm × Value} (h : Made B w xs) (hx : SNew B w x.2 x.1.2.2) : Made B w (xs ++ [x]) := fun y hy => by
  rcases List.mem_append.1 hy with hy | hy
  · exact h y hy
  · rw [List.mem_singleton.1 hy]; exact hx
end Go.Proofs.YtcgknkbigbbfdaaDoor.Sel
