/- Texts cut to 2000 bytes, records of them one behind another, and what All tells of these; of no function of the program. -/
import Derived.Test.YtlifobfbaiabgaaFSame
import Derived.Test.YtlifobfbaiabgaaFPut
namespace Go.Proofs.Ytlifobfbaiabgaa.Frame
open Go.RowKit Go.Proofs.Ytlifobfbaiabgaa.Texts

/-- The first 2000 bytes. -/
def cutT (x : ByteArray) : ByteArray := if 2000 < x.size then x.extract 0 2000 else x.extract 0 x.size
theorem cutT_size (x : ByteArray) : (cutT x).size ≤ 2000 := by
  unfold cutT
  split <;> rw [ByteArray.size_extract] <;> omega
/-- Records, one behind another. -/
def recs (bs : List ByteArray) : List UInt8 := (bs.map fun b => b.data.toList).flatMap putF
theorem recs_snoc (bs : List ByteArray) (b : ByteArray) : recs (bs ++ [b]) = recs bs ++ putF b.data.toList := by simp [recs]
theorem recs_len : ∀ (bs : List ByteArray), (∀ b ∈ bs, b.size ≤ 2000) → (recs bs).length ≤ 2008 * bs.length
  | [], _ => by simp [recs]
  | b :: bs, h => by
    have ih := recs_len bs fun x hx => h x (List.mem_cons_of_mem _ hx)
    have hb := h b (List.mem_cons_self ..)
    show ((putF b.data.toList) ++ recs bs).length ≤ _
    rw [List.length_append, putF_len (by rw [size_list]; omega), size_list, List.length_cons]
    omega
theorem str_ext {S : ByteArray} (a b : Nat) : S.extract a b = str (cut S.data.toList a b) := by rw [← str_of (S.extract a b), ext_list]
theorem told_puts (bs : List ByteArray) (t : List UInt8) (S : ByteArray) (hS : S.data.toList = recs bs ++ t) (hb : ∀ b ∈ bs, b.size ≤ 65536) (hn : nextF S.data.toList ((recs bs).length : Nat) = none) :
    told S = bs ∧ (allL S.data.toList).2 = (recs bs).length := by
  have h := all_puts (s := S.data.toList) (bs.map fun b => b.data.toList) (p := 0) (f := S.data.toList.length + 1) (t := t)
    (fun b hx => by
      obtain ⟨y, hy, rfl⟩ := List.mem_map.1 hx
      rw [size_list]
      exact hb y hy) (Nat.zero_le _) hS (by rw [Nat.zero_add]; exact hn) (by omega)
  refine ⟨?_, by have := h.2; rw [Nat.zero_add] at this; exact this⟩
  have h1 := congrArg (List.map str) h.1
  rw [List.map_map, List.map_map] at h1
  have e : (bs.map (str ∘ fun b => b.data.toList)) = bs := by
    rw [show (str ∘ fun b : ByteArray => b.data.toList) = id from funext fun b => str_of b, List.map_id]
  rw [e] at h1
  rw [← h1]
  unfold told allL
  exact List.map_congr_left fun x _ => str_ext _ _
/-- Behind all records a part of one more. -/
theorem told_torn (bs : List ByteArray) (b S : ByteArray) (k : Nat) (hS : S.data.toList = recs bs ++ (putF b.data.toList).take k) (hk : k < (putF b.data.toList).length) (hb : ∀ b ∈ bs, b.size ≤ 65536) (hb1 : b.size ≤ 65536) :
    told S = bs ∧ (allL S.data.toList).2 = (recs bs).length :=
  told_puts bs _ S hS hb (next_torn (b := b.data.toList) (k := k) (by rw [size_list]; exact hb1) (by rw [hS, List.length_append]; omega) hk (by rw [hS, List.drop_left]))
/-- Records, and nothing behind them. -/
theorem told_whole (bs : List ByteArray) (S : ByteArray) (hS : S.data.toList = recs bs) (hb : ∀ b ∈ bs, b.size ≤ 65536) : told S = bs ∧ (allL S.data.toList).2 = (recs bs).length :=
  told_puts bs [] S (by rw [hS, List.append_nil]) hb (next_out (.inr (by rw [hS]; omega)))

theorem own_kept_below {w w' : World} {B n : Nat} {e : TypeId} {sz : Nat} {v : Value} {xs : List Value} (h : w.ownsRow B e sz v n xs) (hb : Below w.heap.size w w') : w'.ownsRow B e sz v n xs := by
  refine ⟨h.1, ?_⟩
  have h' := h
  rcases h.2 with h0 | ⟨g, cap, cur, hv, h1, h2, h3⟩
  · exact .inl h0
  · refine .inr ⟨g, cap, cur, hv, h1, ?_, h3⟩
    rw [hb.block g (h'.lt g (by rw [hv]; rfl)).2]
    exact h2
/-- A row with one more text, its last cell. -/
theorem own_last {w : World} {B n : Nat} {v : Value} {ts : List ByteArray} {y : ByteArray} (hn : ts.length = n) (h : w.ownsRow B 9 1 v (n + 1) (svals (ts ++ [y]))) :
    ∃ g cap, v = .slice (some ⟨g, 0, none⟩) (n + 1) cap ∧ w.cell? ⟨g, n, none⟩ = some (.string y) := by
  rcases h.2 with ⟨_, h0⟩ | ⟨g, cap, cur, rfl, _⟩
  · omega
  · have := h.cellAt n (by omega)
    exact ⟨g, cap, rfl, by rw [this]; simp [svals, ← hn]⟩
theorem new_one (w : World) (y : ByteArray) (T : TypeId) : ∀ j u, ([Value.string y] : List Value)[j]? = some u → (w.alloc (.cells #[.string y] T)).cell? ((⟨w.heap.size, 0, none⟩ : Addr).add j) = some u := by
  intro j u hj
  have hadd : (⟨w.heap.size, 0, none⟩ : Addr).add j = ⟨w.heap.size, j, none⟩ := by unfold Addr.add; split <;> simp_all
  rw [hadd, cell_of_row _ _ j #[.string y] T (0, 0) (heap_alloc_new w _)]
  simpa using hj
end Go.Proofs.Ytlifobfbaiabgaa.Frame
