/- Appending rows of labels inside a region that draws its order: the step, what it reads, what it leaves. -/
import Derived.Test.YtpkaejacnblplaaLMade
import Derived.Deep.RegionHeld3
import Derived.Deep.AppendLies
namespace Go.Proofs.Ytpkaejacnblplaa.Label
open Go.RowKit Go.Proofs.Ytpkaejacnblplaa.Word

theorem step_own {P : Program} (w : World) {ops : Array Oper} {o : Oper} {a : Act} {K : Act → World → Prop} {Q : Exit → Act → World → Prop} {E : Prop} (hgd : o.guard = none) (s x : Operand) (t : TypeId)
    (ho : o.op = .call { callee := .builtin .append, args := #[s, x], argTypes := #[t, t] })
    (base : Nat) (e : TypeId) (i : TypeInfo) (z : Value) (size bytes : Nat) (ht : P.underlying t = some (.slice e)) (hi : P.info? e = some i) (hz : i.zero = some z)
    (hsize : i.size = size) (hby : i.bytes = bytes) (hzs : z.cells.size = size) (hsz : 0 < size)
    (v : Value) (n : Nat) (xs : List Value) (hs : a.eval s = v) (hown : w.ownsRow base e size v n xs)
    (ad : Addr) (m c : Nat) (news : List Value) (hx : a.eval x = .slice (some ad) m c) (hl : news.length = m * size) (hnews : ∀ j u, news[j]? = some u → w.cell? (ad.add j) = some u) (h1 : ∀ u ∈ news, u.oneCell' = true)
    (h63 : n + m ≤ maxLen) (hbytes : (n + m) * bytes ≤ 140737488355328) (hbase : base ≤ w.heap.size)
    (h : ∀ v' w', w'.ownsRow base e size v' (n + m) (xs ++ news) → w.grownBy w' v.ownBlock → K (a.put o.dst v') w') :
    if Region.wanted o (yielded ops a.tmps) = true then Oper.wp P o a w K Q else E := by
  have hw : Region.wanted o (yielded ops a.tmps) = true := by simp [Region.wanted, hgd]
  rw [if_pos hw]
  exact wp_append_own w s x t ho base e i z size bytes ht hi hz hsize hby hzs hsz v n xs hs hown ad m c news hx hl hnews h1 h63 hbytes hbase fun v' w' h2 h3 _ => h v' w' h2 h3

theorem fm_len (ls : List Pr) : (ls.flatMap enc).length = ls.length * 2 := by
  induction ls with
  | nil => rfl
  | cons a r ih => rw [List.flatMap_cons, List.length_append, ih, List.length_cons]; simp [enc]; omega
theorem fm_at : ∀ (ls : List Pr) (j : Nat) (u : Value), (ls.flatMap enc)[j]? = some u → ∃ i x, ls[i]? = some x ∧ ((j = i * 2 ∧ u = .string x.1) ∨ (j = i * 2 + 1 ∧ u = .string x.2))
  | [], j, u, h => by simp at h
  | a :: r, 0, u, h => by simp [enc] at h; exact ⟨0, a, rfl, .inl ⟨rfl, h.symm⟩⟩
  | a :: r, 1, u, h => by simp [enc] at h; exact ⟨0, a, rfl, .inr ⟨rfl, h.symm⟩⟩
  | a :: r, j + 2, u, h => by
    obtain ⟨i, x, h1, h2⟩ := fm_at r j u (by simpa [enc] using h)
    refine ⟨i + 1, x, by simpa using h1, ?_⟩
    rcases h2 with ⟨h2, h3⟩ | ⟨h2, h3⟩
    · exact .inl ⟨by omega, h3⟩
    · exact .inr ⟨by omega, h3⟩
theorem fm_one (ls : List Pr) : ∀ u ∈ ls.flatMap enc, u.oneCell' = true := by
  intro u hu
  obtain ⟨x, _, hx⟩ := List.mem_flatMap.1 hu
  simp [enc] at hx
  rcases hx with rfl | rfl <;> rfl
theorem Cells.news {w : World} {g o : Nat} {ls : List Pr} (h : Cells w g o ls) : ∀ j u, (ls.flatMap enc)[j]? = some u → w.cell? ((⟨g, o, none⟩ : Addr).add j) = some u := fun j u hj => by
  rw [Addr.add_lit]
  obtain ⟨i, x, hx, ⟨rfl, rfl⟩ | ⟨rfl, rfl⟩⟩ := fm_at ls j u hj
  · exact (h i x hx).1
  · exact (h i x hx).2
theorem Cells.tail {w : World} {g o : Nat} {x : Pr} {ls : List Pr} (h : Cells w g o (x :: ls)) : Cells w g (o + 1 * 2) ls := fun j y hj => by
  have := h (j + 1) y (by simpa using hj)
  rw [show o + (j + 1) * 2 = o + 1 * 2 + j * 2 by omega] at this
  exact this
theorem row_of_own {B n : Nat} {w : World} {v : Value} {ls : List Pr} {xs : List Value} (h : w.ownsRow B 48 2 v n xs) (hn : n = ls.length) (hx : xs = ls.flatMap enc) : Row w v ls := by
  subst hn; subst hx
  exact own_row h
end Go.Proofs.Ytpkaejacnblplaa.Label
