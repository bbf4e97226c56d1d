import Derived.Test.YtbefnophkaepmaaRows
import Derived.ProofKit
import Derived.OpenShut
import Derived.SizedLaws
import Derived.Below
import Derived.WalkKit
import Derived.Deep.Strs
import Derived.Test.YtbefnophkaepmaaProg
import Derived.WalkSpells
import Derived.WalkLawsBesides
import Derived.Laws.BytesArg
import Derived.Lib.Hide
import Derived.Defers
import Derived.Recover
import Derived.Deep.RegionHeld3
import Derived.BigQuiet
import Derived.Deep.QuietTactic
import Derived.Lib.Strings
import Derived.Lib.DecodeN
import Derived.Lib.RuneCount
import Derived.Lib.Bytealg
import Derived.Lib.IndexLaws
import Derived.Laws.RangeString
import Derived.Laws.RangeAny
import Derived.LoopTactic
import Derived.Lib.Walk
import Derived.Shelf.SlicesQ.Load
import Derived.Test.YtbefnophkaepmaaPV1
import Derived.Deep.AppendLies
import Derived.Maps.AppendAt
import Derived.Laws.Rows
import Derived.KernelRfl
import Derived.Deep.DeepCutAuto
import Derived.Deep.RegionLaw
/- Slices of texts in memory, and as arguments: what their cells hold, how long they are; of no program. -/
namespace Go.Proofs.Ytbefnophkaepmaa.Texts
open Go.ChangeShapes Go.WideShapes Go.ChangeAt Go.RowKit

/-- Texts in cells. -/
def SCells (w : World) (g o : Nat) (ts : List ByteArray) : Prop := ∀ j t, ts[j]? = some t → w.cell? ⟨g, o + j, none⟩ = some (.string t)
/-- A slice of texts. -/
def SRow (w : World) (v : Value) (ts : List ByteArray) : Prop :=
  (ts = [] ∧ ∃ a cap, v = .slice a 0 cap ∧ cap ≤ maxLen) ∨ (ts ≠ [] ∧ ∃ g o cap, v = .slice (some ⟨g, o, none⟩) ts.length cap ∧ g < w.heap.size ∧ ts.length ≤ cap ∧ cap ≤ maxLen ∧ SCells w g o ts)
theorem SCells.below {w w' : World} {g o : Nat} {ts : List ByteArray} (h : SCells w g o ts) (hg : g < w.heap.size) (hb : Below w.heap.size w w') : SCells w' g o ts := fun j t hj => by
  rw [hb.cell (p := ⟨g, o + j, none⟩) hg]
  exact h j t hj
theorem SRow.below {w w' : World} {v : Value} {ts : List ByteArray} (h : SRow w v ts) (hb : Below w.heap.size w w') : SRow w' v ts := by
  rcases h with h | ⟨h0, g, o, cap, h1, h2, h3, h4, h5⟩
  · exact .inl h
  · exact .inr ⟨h0, g, o, cap, h1, by have := hb.size; omega, h3, h4, h5.below h2 hb⟩
theorem SRow.slice {w : World} {v : Value} {ts : List ByteArray} (h : SRow w v ts) : ∃ a cap, v = .slice a ts.length cap ∧ ts.length ≤ cap ∧ cap ≤ maxLen := by
  rcases h with ⟨rfl, a, cap, rfl, hm⟩ | ⟨_, g, o, cap, rfl, _, hc, hm, _⟩
  · exact ⟨_, _, rfl, Nat.zero_le _, hm⟩
  · exact ⟨_, _, rfl, hc, hm⟩
theorem SRow.cells {w : World} {a : Option Addr} {cap k n : Nat} {ts : List ByteArray} (h : SRow w (.slice a n cap) ts) (hk : k < ts.length) : ∃ g o, a = some ⟨g, o, none⟩ ∧ g < w.heap.size ∧ SCells w g o ts := by
  rcases h with ⟨rfl, _⟩ | ⟨_, g, o, cap', hsl, hg, _, _, hcell⟩
  · simp at hk
  · injection hsl with h1 _ _
    exact ⟨g, o, h1, hg, hcell⟩
theorem SRow.nil (w : World) : SRow w (.slice none 0 0) [] := .inl ⟨rfl, _, _, rfl, Nat.zero_le _⟩

def svals (ts : List ByteArray) : List Value := ts.map fun t => .string t
theorem svals_snoc (ts : List ByteArray) (t : ByteArray) : svals (ts ++ [t]) = svals ts ++ [.string t] := by simp [svals]
theorem own_srow {B : Nat} {T : TypeId} {w : World} {v : Value} {ts : List ByteArray} (h : w.ownsRow B T 1 v ts.length (svals ts)) : SRow w v ts := by
  have hc := fun g hg => h.cells (g := g) hg
  rcases h.2 with ⟨rfl, h0⟩ | ⟨g, cap, cur, rfl, hB, hg, hcap, hm, hsz, htake⟩
  · rw [List.eq_nil_of_length_eq_zero h0]; exact SRow.nil w
  · by_cases hl : ts = []
    · subst hl; exact .inl ⟨rfl, _, _, rfl, hm⟩
    · refine .inr ⟨hl, g, 0, cap, rfl, (Array.getElem?_eq_some_iff.1 hg).1, hcap, hm, fun j x hj => ?_⟩
      have e0 := hc g rfl j (.string x) (by unfold svals; rw [List.getElem?_map, hj]; rfl)
      rw [Addr.add_lit] at e0
      exact e0

section
variable {H : Type} {enc : TypeId × Value → H} {P : Program}

/-- What is read of texts. -/
def ReadS (ts : List ByteArray) (d : DataW H) : Prop := (d = .nil ∧ ts = []) ∨ ∃ rest, d = .slice (ts.map fun t => .lit (.string t.data.toList)) rest

theorem open_cells {t e : TypeId} (ht : P.underlying t = some (.slice e)) (he : P.underlying e = some .string) (hc : P.cellsOf e = 1) {W : World} {n : Nat} {v : Value} {x : DataW H × List MemPlace}
    (h : DataW.trod enc P W 0 (fun _ => true) true n t [v] = some x) : ∃ ts, SRow W v ts ∧ ReadS ts x.1 := by
  rcases Deep.open_strs ht he hc h with ⟨hcs, hx⟩ | ⟨a, len, cap, m, S, hcs, _, hl, hm, hmm, hx, hi⟩
  · simp only [List.cons.injEq, and_true] at hcs
    subst hcs
    exact ⟨[], SRow.nil W, .inl ⟨by rw [hx], rfl⟩⟩
  · simp only [List.cons.injEq, and_true] at hcs
    subst hcs
    simp only [if_true] at hmm
    subst hmm
    have hlen : ((List.range len).map S).length = len := by simp
    refine ⟨(List.range len).map S, ?_, .inr ⟨_, by rw [hx, List.map_map]; rfl⟩⟩
    by_cases hz : len = 0
    · subst hz
      exact .inl ⟨rfl, _, _, rfl, hm⟩
    · obtain ⟨ab, ao, spot⟩ := a
      have h0 := (hi 0 (by omega)).1
      have hspot : spot = none := by simpa [Addr.add] using World.cell?_spot h0
      subst hspot
      refine .inr ⟨fun hn => by rw [hn] at hlen; simp at hlen; omega, ab, ao, m, by rw [hlen], World.block_lt_of_cell? (a := ⟨ab, ao, none⟩) _ (by simpa [Addr.add] using h0), by rw [hlen]; exact hl, hm, fun k x hk => ?_⟩
      obtain ⟨hk1, rfl⟩ := List.getElem?_eq_some_iff.1 hk
      rw [hlen] at hk1
      have g0 := (hi k (by omega)).1
      rw [Addr.add_lit] at g0
      simp only [List.getElem_map, List.getElem_range]
      exact g0
/-- An argument of texts, opened. -/
theorem open_texts {t e : TypeId} (ht : P.underlying t = some (.slice e)) (he : P.underlying e = some .string) (hc : P.cellsOf e = 1) {W : World} {base : Nat} {v : Value} {d : DataW H} {p : List MemPlace}
    (hval : Value.okWide P W .any base t v) (h : DataW.Trod enc P W 0 (fun _ => true) true t v d p) : ∃ ts, SRow W v ts ∧ ReadS ts d := by
  obtain ⟨a1, len, cap, rfl⟩ := okWide_slice ht hval
  obtain ⟨fuel, hf⟩ := h
  exact open_cells ht he hc hf

theorem weights_all {e : TypeId} {d : DataW H} : ∀ {l : List (DataW H)}, d ∈ l → ∀ n ∈ d.weights P e, n ∈ DataW.weightsAll P e l
  | [], h, _, _ => by cases h
  | x :: r, h, n, hn => by
    simp only [DataW.weightsAll, List.mem_append]
    rcases List.mem_cons.1 h with rfl | h
    · exact .inl hn
    · exact .inr (weights_all h n hn)
/-- By the reach: how many, how long. -/
theorem ReadS.reach {t e : TypeId} {ts : List ByteArray} {d : DataW H} {B : Nat} (h : ReadS ts d) (ht : P.underlying t = some (.slice e)) (hby : P.bytesOf e = 16) (hB : ∀ n ∈ d.weights P t, n ≤ B) : ts.length * 16 ≤ B ∧ ∀ x ∈ ts, x.size ≤ B := by
  rcases h with ⟨_, rfl⟩ | ⟨rest, rfl⟩
  · exact ⟨by simp, fun x hx => by simp at hx⟩
  · simp only [DataW.weights, ht, hby] at hB
    refine ⟨?_, fun x hx => ?_⟩
    · have := hB _ (List.mem_cons_self ..)
      simp only [List.length_map] at this
      have h2 : ts.length * 16 ≤ (ts.length + rest.length) * 16 := Nat.mul_le_mul_right _ (Nat.le_add_right _ _)
      omega
    · have hm : DataW.lit (H := H) (.string x.data.toList) ∈ ts.map fun t => DataW.lit (H := H) (.string t.data.toList) := List.mem_map.2 ⟨x, hx, rfl⟩
      have := hB x.data.toList.length (List.mem_cons_of_mem _ (List.mem_append_left _ (weights_all hm _ (by simp [DataW.weights]))))
      rw [Array.length_toList] at this
      exact this

theorem bulk_mem {d : DataW H} : ∀ {l : List (DataW H)}, d ∈ l → Rows.uptoBulk d ≤ Rows.uptoBulkAll l
  | [], h => by cases h
  | x :: r, h => by
    simp only [Rows.uptoBulkAll]
    rcases List.mem_cons.1 h with rfl | h
    · omega
    · have := bulk_mem h; omega
theorem bulk_one (d : DataW H) : 1 ≤ Rows.uptoBulk d := by
  cases d with
  | lit l => cases l <;> simp [Rows.uptoBulk]
  | nil => simp [Rows.uptoBulk]
  | ptr d => simp [Rows.uptoBulk]
  | slice a b => simp [Rows.uptoBulk]
  | agg a => simp [Rows.uptoBulk]
  | iface a d => simp [Rows.uptoBulk]
  | map a => simp [Rows.uptoBulk]
  | held a => simp [Rows.uptoBulk]
theorem bulk_len : ∀ (l : List (DataW H)), l.length ≤ Rows.uptoBulkAll l
  | [] => by simp
  | x :: r => by
    have := bulk_len r
    have := bulk_one x
    simp only [Rows.uptoBulkAll, List.length_cons]
    omega
/-- By the bulk: how many, how long. -/
theorem ReadS.bulk {ts : List ByteArray} {d : DataW H} (h : ReadS ts d) : ts.length ≤ Rows.uptoBulk d ∧ ∀ x ∈ ts, x.size ≤ Rows.uptoBulk d := by
  rcases h with ⟨_, rfl⟩ | ⟨rest, rfl⟩
  · exact ⟨by simp, fun x hx => by simp at hx⟩
  · simp only [Rows.uptoBulk]
    refine ⟨?_, fun x hx => ?_⟩
    · have := bulk_len (ts.map fun t => DataW.lit (H := H) (.string t.data.toList))
      rw [List.length_map] at this
      omega
    · have hm : DataW.lit (H := H) (.string x.data.toList) ∈ ts.map fun t => DataW.lit (H := H) (.string t.data.toList) := List.mem_map.2 ⟨x, hx, rfl⟩
      have h1 := bulk_mem hm
      simp only [Rows.uptoBulk] at h1
      have h2 : x.data.toList.length = x.size := Array.length_toList
      omega
end
end Go.Proofs.Ytbefnophkaepmaa.Texts

/- The digits of seven bits of a number, and what is read of bytes: plain facts on lists of bytes and numbers, without the program. -/
namespace Go.Proofs.Ytbefnophkaepmaa.Wire

/-- The only form of a number: its digits of seven bits, the least first. -/
def putL (u : Nat) : List UInt8 := if u < 128 then [UInt8.ofNat u] else UInt8.ofNat (u % 128 + 128) :: putL (u / 128)
  termination_by u
  decreasing_by omega

theorem putL_lt {u : Nat} (h : u < 128) : putL u = [UInt8.ofNat u] := by rw [putL, if_pos h]
theorem putL_ge {u : Nat} (h : 128 ≤ u) : putL u = UInt8.ofNat (u % 128 + 128) :: putL (u / 128) := by rw [putL, if_neg (by omega)]
theorem putL_pos (u : Nat) : 0 < (putL u).length := by
  by_cases h : u < 128
  · rw [putL_lt h]; simp
  · rw [putL_ge (by omega)]; simp
theorem putL_ne (u : Nat) : putL u ≠ [] := fun h => by have := putL_pos u; rw [h] at this; simp at this
theorem putL_len : ∀ (k u : Nat), u < 128 ^ (k + 1) → (putL u).length ≤ k + 1
  | 0, u, h => by rw [putL_lt (by simpa using h)]; simp
  | k + 1, u, h => by
    by_cases h1 : u < 128
    · rw [putL_lt h1]; simp
    · rw [putL_ge (by omega)]
      have h2 : u / 128 < 128 ^ (k + 1) := by
        rw [Nat.div_lt_iff_lt_mul (by omega)]
        rw [Nat.pow_succ] at h
        exact h
      have := putL_len k (u / 128) h2
      simp only [List.length_cons]
      omega
theorem putL_ten {u : Nat} (h : u < 18446744073709551616) : (putL u).length ≤ 10 := putL_len 9 u (Nat.lt_of_lt_of_le h (by decide))
theorem putL_one (u : Nat) : (putL u).length = 1 ↔ u < 128 := by
  by_cases h : u < 128
  · rw [putL_lt h]; simp [h]
  · rw [putL_ge (by omega)]
    have := putL_pos (u / 128)
    simp only [List.length_cons]
    omega

theorem byte_lo {c : Nat} (h : c < 128) : (UInt8.ofNat c).toNat = c := by simp; omega
theorem byte_hi (u : Nat) : (UInt8.ofNat (u % 128 + 128)).toNat = u % 128 + 128 := by simp; omega

/-- What is read of bytes: the digits up to a last one, at most so many: their number (unbounded), and how many they are. -/
def takeL : Nat → List UInt8 → Option (Nat × Nat)
  | 0, _ => none
  | _ + 1, [] => none
  | f + 1, c :: r => if c.toNat < 128 then some (c.toNat, 1) else (takeL f r).map fun x => (c.toNat - 128 + 128 * x.1, x.2 + 1)

theorem takeL_put : ∀ (f u : Nat) (r : List UInt8), (putL u).length ≤ f → takeL f (putL u ++ r) = some (u, (putL u).length)
  | 0, u, r, h => by have := putL_pos u; omega
  | f + 1, u, r, h => by
    by_cases h1 : u < 128
    · rw [putL_lt h1]
      simp only [List.cons_append, takeL, byte_lo h1, if_pos h1, List.length_cons, List.nil_append, List.length_nil]
    · rw [putL_ge (by omega)] at h ⊢
      simp only [List.length_cons] at h
      simp only [List.cons_append, takeL, byte_hi]
      rw [if_neg (by omega), takeL_put f (u / 128) r (by omega)]
      simp only [Option.map_some, List.length_cons]
      congr 2
      omega

theorem takeL_len : ∀ (f : Nat) (l : List UInt8) (v k : Nat), takeL f l = some (v, k) → 1 ≤ k ∧ k ≤ f ∧ k ≤ l.length
  | 0, l, v, k, h => by simp [takeL] at h
  | f + 1, [], v, k, h => by simp [takeL] at h
  | f + 1, c :: r, v, k, h => by
    simp only [takeL] at h
    split at h
    · simp only [Option.some.injEq, Prod.mk.injEq] at h
      obtain ⟨rfl, rfl⟩ := h
      simp
    · simp only [Option.map_eq_some_iff, Prod.mk.injEq, Prod.exists] at h
      obtain ⟨v', k', h', rfl, rfl⟩ := h
      have := takeL_len f r v' k' h'
      simp only [List.length_cons]
      omega

/-- Of what begins alike the numbers are alike. -/
theorem putL_same {u v : Nat} {a b : List UInt8} (h : putL u ++ a = putL v ++ b) : u = v ∧ a = b := by
  have h1 := takeL_put ((putL u).length + (putL v).length) u a (by omega)
  have h2 := takeL_put ((putL u).length + (putL v).length) v b (by omega)
  rw [h, h2] at h1
  simp only [Option.some.injEq, Prod.mk.injEq] at h1
  obtain ⟨rfl, -⟩ := h1
  exact ⟨rfl, List.append_cancel_left h⟩
theorem putL_begins {u v : Nat} {r : List UInt8} (h : putL v = putL u ++ r) : u = v ∧ r = [] := by
  have := putL_same (u := u) (v := v) (a := r) (b := []) (by simp [h])
  exact this
theorem putL_inj {u v : Nat} (h : putL u = putL v) : u = v := (putL_same (a := []) (b := []) (by simp [h])).1

/-- What stands in l is the form of u, and something behind. -/
def Stands (u : Nat) (l : List UInt8) : Prop := u < 18446744073709551616 ∧ ∃ r, l = putL u ++ r

theorem Stands.one {u v : Nat} {l : List UInt8} (h : Stands u l) (k : Stands v l) : u = v := by
  obtain ⟨_, r, rfl⟩ := h
  obtain ⟨_, s, e⟩ := k
  exact (putL_same e).1
theorem not_stands_nil (u : Nat) : ¬ Stands u [] := by
  rintro ⟨_, r, h⟩
  have := congrArg List.length h
  have := putL_pos u
  simp at *
  omega
theorem Stands.takes {u : Nat} {l : List UInt8} (h : Stands u l) : takeL 10 l = some (u, (putL u).length) := by
  obtain ⟨hu, r, rfl⟩ := h
  exact takeL_put 10 u r (putL_ten hu)
theorem stands_of {l : List UInt8} {u k : Nat} (hu : u < 18446744073709551616) (h : putL u = l.take k) : Stands u l :=
  ⟨hu, l.drop k, by rw [h, List.take_append_drop]⟩
theorem Stands.take {u : Nat} {l : List UInt8} (h : Stands u l) : l.take (putL u).length = putL u := by
  obtain ⟨_, r, rfl⟩ := h
  simp
theorem Stands.len {u : Nat} {l : List UInt8} (h : Stands u l) : (putL u).length ≤ l.length := by
  obtain ⟨_, r, rfl⟩ := h
  simp
end Go.Proofs.Ytbefnophkaepmaa.Wire

/- What wire.Put answers, for every number of 64 bits: its digits of seven bits, the least first; of memory that was there nothing turns. -/
namespace Go.Proofs.Ytbefnophkaepmaa.Wire
open Go.RowKit

theorem info5 : (Try.prog.info? 5).map (fun i => (i.zero, i.size, i.bytes)) = some (some (.int .u8 0), 1, 1) := by kernel_rfl

/-- Bytes as values. -/
def vals (l : List UInt8) : List Value := l.map fun c => Value.int .u8 (c.toNat : Int)
theorem vals_append (a b : List UInt8) : vals (a ++ b) = vals a ++ vals b := by simp [vals]
theorem vals_length (a : List UInt8) : (vals a).length = a.length := by simp [vals]
/-- A text of bytes. -/
def str (l : List UInt8) : ByteArray := ⟨l.toArray⟩
theorem str_toList (l : List UInt8) : (str l).data.toList = l := by simp [str]
theorem str_size (l : List UInt8) : (str l).size = l.length := by simp [str, ByteArray.size]

set_option maxRecDepth 100000 in
theorem conv_own {w : World} {B : Nat} {v : Value} {l : List UInt8} {n : Nat} (hn : n = l.length) (h : w.ownsRow B 5 1 v n (vals l)) (hl : 0 < l.length) :
    (convert 44 9 v).run Try.prog w = .ok (.string (str l)) w := by
  subst hn
  have h' := h
  rcases h.2 with ⟨rfl, h0⟩ | ⟨g, cap, cur, rfl, _⟩
  · omega
  have := run_convert_bytes_arg (P := Try.prog) w 44 5 Try.underlying44 Try.underlying5 g 0 l.length cap (l.map fun c => (c.toNat : Int)) (by simp) (fun i hi => by
    rw [Nat.zero_add, h'.cellAt i (by simpa using hi)]
    simp [vals, hi]) 9 Try.underlying9
  rw [this]
  congr 2
  simp only [strOfNums, str, List.map_map]
  congr 1
  congr 1
  exact (List.map_congr_left fun c _ => by simp).trans (List.map_id _)

set_option maxRecDepth 100000 in
theorem or_hi : ∀ m : Nat, m < 256 → m ||| 128 = m % 128 + 128 := by decide
theorem u8_or_hi (n : Nat) : bits .or .u8 ((n : Int) % 256) 128 = ((UInt8.ofNat (n % 128 + 128)).toNat : Int) := by
  have h := u8_or_nat (n % 256) 128 (by omega) (by omega)
  rw [or_hi _ (by omega)] at h
  rw [byte_hi, show (n : Int) % 256 = ((n % 256 : Nat) : Int) from by omega]
  refine h.trans ?_
  omega

theorem own_last {w : World} {B n : Nat} {v : Value} {xs : List UInt8} (h128 : n < 128) (h : w.ownsRow B 5 1 v (xs.length + 1) (vals xs ++ [.int .u8 (n : Int)])) :
    w.ownsRow B 5 1 v (xs ++ putL n).length (vals (xs ++ putL n)) := by
  rw [putL_lt h128, vals_append]
  simpa [vals, byte_lo h128] using h
theorem own_more {w : World} {B : Nat} {c : UInt8} {v : Value} {xs : List UInt8} (h : w.ownsRow B 5 1 v (xs.length + 1) (vals xs ++ [.int .u8 (c.toNat : Int)])) :
    w.ownsRow B 5 1 v (xs ++ [c]).length (vals (xs ++ [c])) := by
  rw [vals_append]
  simpa [vals] using h

end Go.Proofs.Ytbefnophkaepmaa.Wire

/- What wire.Get defers: if nothing was taken, or what was taken is not the only form of its number, the three answers become 0, 0, false; else they stay. -/
namespace Go.Proofs.Ytbefnophkaepmaa.Wire
open Go.RowKit

/-- The five variables of Get, in blocks H to H + 4. -/
def Vars (H : Nat) (s : ByteArray) (p u n : Int) (ok : Bool) (w : World) : Prop :=
  w.cell? ⟨H, 0, none⟩ = some (.string s) ∧ w.cell? ⟨H + 1, 0, none⟩ = some (.int .i64 p) ∧ w.cell? ⟨H + 2, 0, none⟩ = some (.int .u64 u) ∧ w.cell? ⟨H + 3, 0, none⟩ = some (.int .i64 n) ∧ w.cell? ⟨H + 4, 0, none⟩ = some (.bool ok) ∧
  w.frozen? ⟨H + 2, 0, none⟩ = false ∧ w.frozen? ⟨H + 3, 0, none⟩ = false ∧ w.frozen? ⟨H + 4, 0, none⟩ = false

/-- The three answers' variables, written. -/
def put3 (H : Nat) (u n : Int) (ok : Bool) (w : World) : World :=
  ((w.setCell ⟨H + 2, 0, none⟩ (.int .u64 u)).setCell ⟨H + 3, 0, none⟩ (.int .i64 n)).setCell ⟨H + 4, 0, none⟩ (.bool ok)
theorem Vars.put3 {H : Nat} {s : ByteArray} {p u n : Int} {ok : Bool} {w : World} (h : Vars H s p u n ok w) (u' n' : Int) (ok' : Bool) : Vars H s p u' n' ok' (put3 H u' n' ok' w) := by
  obtain ⟨c0, c1, c2, c3, c4, f2, f3, f4⟩ := h
  unfold Wire.put3
  have far : ∀ (x y : Nat) (v : Value) (z : World), x ≠ y → (z.setCell ⟨x, 0, none⟩ v).cell? ⟨y, 0, none⟩ = z.cell? ⟨y, 0, none⟩ := fun x y v z hxy => World.cell?_setCell_far z _ _ v hxy
  refine ⟨?_, ?_, ?_, ?_, ?_, ?_, ?_, ?_⟩
  · rw [far _ _ _ _ (by omega), far _ _ _ _ (by omega), far _ _ _ _ (by omega)]; exact c0
  · rw [far _ _ _ _ (by omega), far _ _ _ _ (by omega), far _ _ _ _ (by omega)]; exact c1
  · rw [far _ _ _ _ (by omega), far _ _ _ _ (by omega)]; exact World.cell?_setCell_same _ _ _ c2
  · rw [far _ _ _ _ (by omega)]; exact World.cell?_setCell_same _ _ _ ((far _ _ _ _ (by omega)).trans c3)
  · exact World.cell?_setCell_same _ _ _ ((far _ _ _ _ (by omega)).trans ((far _ _ _ _ (by omega)).trans c4))
  · simpa using f2
  · simpa using f3
  · simpa using f4
theorem below_put3 {H : Nat} {a w : World} (h : Below H a w) (u n : Int) (ok : Bool) : Below H a (put3 H u n ok w) :=
  ((h.setCell (by simp) _).setCell (by simp) _).setCell (by simp) _
theorem Vars.drewN {H : Nat} {s : ByteArray} {p u n : Int} {ok : Bool} {w : World} (h : Vars H s p u n ok w) (k : Nat) : Vars H s p u n ok (w.drewN k) := h
theorem Vars.lt {H : Nat} {s : ByteArray} {p u n : Int} {ok : Bool} {w : World} (h : Vars H s p u n ok w) : H + 4 < w.heap.size := World.block_lt_of_cell? w ⟨H + 4, 0, none⟩ h.2.2.2.2.1
theorem Vars.later {H : Nat} {s : ByteArray} {p u n : Int} {ok : Bool} {w w' : World} (h : Vars H s p u n ok w) (hb : Below w.heap.size w w') : Vars H s p u n ok w' := by
  have hl := h.lt
  obtain ⟨c0, c1, c2, c3, c4, f2, f3, f4⟩ := h
  exact ⟨cell_later hb c0, cell_later hb c1, cell_later hb c2, cell_later hb c3, cell_later hb c4,
    (hb.frozen (p := ⟨H + 2, 0, none⟩) (by simp; omega)).trans f2, (hb.frozen (p := ⟨H + 3, 0, none⟩) (by simp; omega)).trans f3, (hb.frozen (p := ⟨H + 4, 0, none⟩) (by simp; omega)).trans f4⟩


theorem vars_S {H : Nat} {s : ByteArray} {p u n : Int} {ok : Bool} {w0 w w' : World} (h : Vars H s p u n ok w) (h0 : Below H w0 w) (hb : Below w.heap.size w w') : Vars H s p u n ok w' ∧ Below H w0 w' :=
  ⟨h.later hb, h0.trans (hb.mono (by have := h.lt; omega))⟩


end Go.Proofs.Ytbefnophkaepmaa.Wire

/- What wire.takeDigits answers, for every text and every place in it: the digits up to a last one, at most ten of them; the world stays as it was. -/
namespace Go.Proofs.Ytbefnophkaepmaa.Wire
open Go.RowKit

/-- What takeDigits hands back. -/
def tkRes (p : Nat) : Option (Nat × Nat) → Value
  | none => .tuple #[.int .u64 0, .int .i64 0, .bool false]
  | some x => .tuple #[.int .u64 ((x.1 % 18446744073709551616 : Nat) : Int), .int .i64 ((p + x.2 : Nat) : Int), .bool true]

/-- The state of the loop behind k digits. -/
def Took (L : List UInt8) (k X : Nat) : Prop :=
  X < 18446744073709551616 ∧ (k ≤ 9 → X < 2 ^ (7 * k)) ∧ takeL 10 L = (takeL (10 - k) (L.drop k)).map fun x => (X + 2 ^ (7 * k) * x.1, x.2 + k)

theorem Took.start (L : List UInt8) : Took L 0 0 := by
  refine ⟨by decide, fun _ => by decide, ?_⟩
  simp

/-- A digit behind digits: its bits and theirs do not meet. -/
theorem or_step {X k d : Nat} (hk : k ≤ 9) (hX : X < 2 ^ (7 * k)) : X ||| d * 2 ^ (7 * k) % 18446744073709551616 = (X + 2 ^ (7 * k) * d) % 18446744073709551616 := by
  have hpq : 2 ^ (7 * k) * 2 ^ (64 - 7 * k) = 18446744073709551616 := by
    rw [← Nat.pow_add, show 7 * k + (64 - 7 * k) = 64 from by omega]
  rw [← hpq, Nat.mul_comm d, Nat.mul_mod_mul_left, Nat.or_comm, ← Nat.two_pow_add_eq_or_of_lt hX, Nat.mod_mul (x := X + 2 ^ (7 * k) * d), Nat.add_mul_mod_self_left, Nat.mod_eq_of_lt hX,
    Nat.add_mul_div_left _ _ (Nat.two_pow_pos _), Nat.div_eq_of_lt hX, Nat.zero_add, Nat.add_comm]

theorem and127 : ∀ c : Nat, c < 256 → c &&& 127 = c % 128 := fun c _ => Nat.and_two_pow_sub_one_eq_mod c 7
theorem digit_bits (c : UInt8) : bits .andNot .u8 (c.toNat : Int) 128 = ((c.toNat % 128 : Nat) : Int) := by
  have hc := c.toNat_lt
  have h := u8_andNot_nat c.toNat 128 (by omega) (by omega)
  rw [show 255 - 128 = 127 from rfl, and127 _ (by omega)] at h
  exact h
theorem step_bits (c : UInt8) (X k : Nat) (hX : X < 18446744073709551616) :
    bits .or .u64 (X : Int) (IntKind.u64.wrap (IntKind.u64.wrap (bits .andNot .u8 (c.toNat : Int) 128) * 2 ^ (k * 7))) = ((X ||| (c.toNat % 128) * 2 ^ (7 * k) % 18446744073709551616 : Nat) : Int) := by
  rw [digit_bits, show IntKind.u64.wrap ((c.toNat % 128 : Nat) : Int) = ((c.toNat % 128 : Nat) : Int) from by rw [IntKind.wrap_u64]; omega]
  have e : (((c.toNat % 128 : Nat) : Int) * 2 ^ (k * 7)) = (((c.toNat % 128) * 2 ^ (7 * k) : Nat) : Int) := by
    rw [Int.natCast_mul, Int.natCast_pow, Nat.mul_comm k 7]
    rfl
  rw [e]
  generalize (c.toNat % 128) * 2 ^ (7 * k) = y
  rw [show IntKind.u64.wrap (y : Int) = ((y % 18446744073709551616 : Nat) : Int) from by rw [IntKind.wrap_u64]; omega]
  exact bits_or_u64_nat X _ hX (Nat.mod_lt _ (by decide))

theorem Took.last {L : List UInt8} {k X : Nat} {c : UInt8} {r : List UInt8} (h : Took L k X) (hk : k < 10) (hd : L.drop k = c :: r) (hc : c.toNat < 128) :
    takeL 10 L = some (X + 2 ^ (7 * k) * c.toNat, k + 1) := by
  rw [h.2.2, hd, show 10 - k = (9 - k) + 1 from by omega, takeL, if_pos hc]
  simp [Nat.add_comm]
theorem Took.next {L : List UInt8} {k X : Nat} {c : UInt8} {r : List UInt8} (h : Took L k X) (hk : k < 10) (hd : L.drop k = c :: r) (hc : ¬ c.toNat < 128) :
    Took L (k + 1) (X ||| (c.toNat % 128) * 2 ^ (7 * k) % 18446744073709551616) := by
  have hlt := c.toNat_lt
  have hX := h.2.1 (by omega)
  have hr : L.drop (k + 1) = r := by
    have := congrArg List.tail hd
    rw [List.tail_drop] at this
    exact this
  rw [or_step (by omega) hX]
  refine ⟨Nat.mod_lt _ (by decide), fun h9 => ?_, ?_⟩
  · refine Nat.lt_of_le_of_lt (Nat.mod_le _ _) ?_
    rw [show 7 * (k + 1) = 7 * k + 7 from by omega, Nat.pow_add]
    have : 2 ^ (7 * k) * (c.toNat % 128) ≤ 2 ^ (7 * k) * 127 := Nat.mul_le_mul (Nat.le_refl _) (by omega)
    omega
  · rw [h.2.2, hd, hr, show 10 - k = (9 - k) + 1 from by omega, takeL, if_neg hc, show 10 - (k + 1) = 9 - k from by omega, Option.map_map]
    by_cases h9 : k = 9
    · subst h9; simp [takeL]
    · congr 1
      funext x
      simp only [Function.comp, Prod.mk.injEq]
      refine ⟨?_, by omega⟩
      have hb : X + 2 ^ (7 * k) * (c.toNat % 128) < 18446744073709551616 := by
        have h1 : 2 ^ (7 * k) * (c.toNat % 128) ≤ 2 ^ (7 * k) * 127 := Nat.mul_le_mul (Nat.le_refl _) (by omega)
        have h2 : 2 ^ (7 * k) ≤ 2 ^ 56 := Nat.pow_le_pow_right (by omega) (by omega)
        omega
      rw [Nat.mod_eq_of_lt hb, show 7 * (k + 1) = 7 * k + 7 from by omega, Nat.pow_add, show c.toNat - 128 = c.toNat % 128 from by omega, Nat.mul_add, ← Nat.mul_assoc, show 2 ^ 7 = 128 from rfl]
      omega
theorem Took.out {L : List UInt8} {k X : Nat} (h : Took L k X) (hk : 10 ≤ k ∨ L.length ≤ k) : takeL 10 L = none := by
  rw [h.2.2]
  rcases hk with hk | hk
  · rw [show 10 - k = 0 from by omega]; simp [takeL]
  · rw [List.drop_eq_nil_of_le hk]
    cases 10 - k <;> simp [takeL]
theorem drop_at {s : ByteArray} {p k : Nat} (h : p + k < s.size) : (s.data.toList.drop p).drop k = s[p + k] :: (s.data.toList.drop p).drop (k + 1) := by
  rw [List.drop_drop, List.drop_drop, List.drop_eq_getElem_cons (by simpa using h)]
  rfl

end Go.Proofs.Ytbefnophkaepmaa.Wire

/- What wire.Get answers, for every text and every place: the number whose form stands there and the place behind it, and true; or 0, 0 and false; of memory that was there nothing turns. -/
namespace Go.Proofs.Ytbefnophkaepmaa.Wire
open Go.RowKit

/-- What Get hands back. -/
def getNo : Value := .tuple #[.int .u64 0, .int .i64 0, .bool false]
def getYes (u n : Nat) : Value := .tuple #[.int .u64 u, .int .i64 n, .bool true]

/-- The world in which Get has laid its variables. -/
def laid (s : ByteArray) (p u n : Int) (ok : Bool) (w : World) : World :=
  ((((w.alloc (.cells #[.string s] 9)).alloc (.cells #[.int .i64 p] 3)).alloc (.cells #[.int .u64 u] 24)).alloc (.cells #[.int .i64 n] 3)).alloc (.cells #[.bool ok] 4)
theorem vars_laid (s : ByteArray) (p u n : Int) (ok : Bool) (w : World) : Vars w.heap.size s p u n ok (laid s p u n ok w) := by
  unfold laid Vars
  refine ⟨?_, ?_, ?_, ?_, ?_, ?_, ?_, ?_⟩ <;> simp [go_sem]
theorem below_laid (s : ByteArray) (p u n : Int) (ok : Bool) (w : World) : Below w.heap.size w (laid s p u n ok w) :=
  (((((Below.refl _ _).alloc (Nat.le_refl _) _).alloc (by simp) _).alloc (by simp; omega) _).alloc (by simp; omega) _).alloc (by simp; omega) _





end Go.Proofs.Ytbefnophkaepmaa.Wire

/- What wire.Get answers, for every text and place, by one plain function; of memory that was there nothing turns. -/
namespace Go.Proofs.Ytbefnophkaepmaa.Wire
open Go.RowKit

/-- The number whose form stands in l at p, and the place behind it. -/
def getV (l : List UInt8) (p : Int) : Option (Nat × Nat) :=
  if p < 0 then none else
    match takeL 10 (l.drop p.toNat) with
    | none => none
    | some x => if putL (x.1 % 18446744073709551616) = (l.drop p.toNat).take x.2 then some (x.1 % 18446744073709551616, p.toNat + x.2) else none

theorem getV_lt {l : List UInt8} {p : Int} {u n : Nat} (h : getV l p = some (u, n)) : u < 18446744073709551616 ∧ p.toNat < n ∧ n ≤ l.length ∧ 0 ≤ p ∧ n = p.toNat + (putL u).length ∧ Stands u (l.drop p.toNat) := by
  unfold getV at h
  split at h
  · simp at h
  rename_i hp
  split at h
  · simp at h
  rename_i x ht
  split at h
  · rename_i he
    simp only [Option.some.injEq, Prod.mk.injEq] at h
    obtain ⟨rfl, rfl⟩ := h
    have hl := takeL_len _ _ _ _ ht
    have hu : x.1 % 18446744073709551616 < 18446744073709551616 := Nat.mod_lt _ (by decide)
    have hlen := congrArg List.length he
    rw [List.length_take] at hlen
    rw [List.length_drop] at hl hlen
    exact ⟨hu, by omega, by omega, by omega, by omega, stands_of hu he⟩
  · simp at h
theorem getV_of {l : List UInt8} {p u : Nat} (h : Stands u (l.drop p)) : getV l p = some (u, p + (putL u).length) := by
  unfold getV
  rw [if_neg (by omega), Int.toNat_natCast, h.takes]
  simp only
  rw [Nat.mod_eq_of_lt h.1, if_pos h.take.symm]
theorem getV_out {l : List UInt8} {p : Int} (h : p < 0 ∨ (l.length : Int) ≤ p) : getV l p = none := by
  unfold getV
  split
  · rfl
  · rw [List.drop_eq_nil_of_le (by omega)]
    rfl

theorem size_list (s : ByteArray) : s.data.toList.length = s.size := Array.length_toList
theorem ext_list (s : ByteArray) (p k : Nat) : (s.extract p (p + k)).toList = (s.data.toList.drop p).take k := by
  rw [Lib.toList_data, Lib.extract_data, Nat.add_sub_cancel_left]
theorem str_list (l : List UInt8) : (str l).toList = l := by rw [Lib.toList_data]; exact str_toList l

end Go.Proofs.Ytbefnophkaepmaa.Wire

/- What wire.PutText and wire.GetText answer, for every text, place and limit, by one plain function each; of memory that was there nothing turns. -/
namespace Go.Proofs.Ytbefnophkaepmaa.Wire
open Go.RowKit

/-- The text of at most so many bytes whose form stands in l at p: where its bytes begin, and where they end. -/
def textV (l : List UInt8) (p most : Int) : Option (Nat × Nat) :=
  match getV l p with
  | none => none
  | some x => if most < 0 ∨ most < (x.1 : Int) ∨ l.length < x.2 + x.1 then none else some (x.2, x.2 + x.1)



end Go.Proofs.Ytbefnophkaepmaa.Wire

/- The plain mathematics of names and paths: runes of a text, names, the pieces between slashes; no program. -/
namespace Go.Proofs.Ytbefnophkaepmaa.Word

/-- A text of bytes. -/
def str (l : List UInt8) : ByteArray := ⟨l.toArray⟩
theorem str_toList (l : List UInt8) : (str l).data.toList = l := by simp [str]
theorem str_size (l : List UInt8) : (str l).size = l.length := by simp [str, ByteArray.size]
theorem str_data (s : ByteArray) : str s.data.toList = s := by cases s; simp [str]
theorem str_inj {a b : List UInt8} (h : str a = str b) : a = b := by rw [← str_toList a, h, str_toList]
theorem size_list (s : ByteArray) : s.data.toList.length = s.size := Array.length_toList
theorem str_append (a b : List UInt8) : str a ++ str b = str (a ++ b) := by
  apply ByteArray.ext
  simp [str]
theorem append_str (a b : ByteArray) : a ++ b = str (a.data.toList ++ b.data.toList) := by
  rw [← str_append, str_data, str_data]

/-- The rune that stands first, and how many bytes it has. -/
def dec (l : List UInt8) : Nat × Nat := Lib.decodeN l.length (l.getD 0 0).toNat (l.getD 1 0).toNat (l.getD 2 0).toNat (l.getD 3 0).toNat

theorem get_drop (s : ByteArray) (i k : Nat) : s.get! (i + k) = (s.data.toList.drop i).getD k 0 := by
  show s.data[i + k]! = _
  rw [List.getD_eq_getElem?_getD, List.getElem?_drop, Array.getElem?_toList, getElem!_def]
  cases s.data[i + k]? <;> rfl
theorem decode_drop (s : ByteArray) (i : Nat) : Utf8.decode s i = dec (s.data.toList.drop i) := by
  rw [Lib.decode_at, dec, List.length_drop, size_list, ← get_drop, ← get_drop, ← get_drop, ← get_drop]
  rfl

theorem dec_pos {l : List UInt8} : 1 ≤ (dec l).2 := by
  unfold dec Lib.decodeN
  repeat' split
  all_goals simp
theorem dec_le {l : List UInt8} (h : l ≠ []) : (dec l).2 ≤ l.length := by
  have : 1 ≤ l.length := by cases l <;> simp_all
  unfold dec Lib.decodeN
  repeat' split
  all_goals simp
  all_goals omega

/-- The runes of a text, of bytes that are no rune's one each. -/
def runesF : Nat → List UInt8 → List Nat
  | 0, _ => []
  | f + 1, l => if l = [] then [] else (dec l).1 :: runesF f (l.drop (dec l).2)
def runes (l : List UInt8) : List Nat := runesF l.length l

theorem runesF_nil (f : Nat) : runesF f [] = [] := by cases f <;> rfl
theorem runesF_more : ∀ (f g : Nat) (l : List UInt8), l.length ≤ f → l.length ≤ g → runesF f l = runesF g l
  | 0, g, l, hf, _ => by
    obtain rfl : l = [] := List.eq_nil_of_length_eq_zero (by omega)
    rw [runesF_nil, runesF_nil]
  | f + 1, 0, l, _, hg => by
    obtain rfl : l = [] := List.eq_nil_of_length_eq_zero (by omega)
    rw [runesF_nil, runesF_nil]
  | f + 1, g + 1, l, hf, hg => by
    unfold runesF
    split
    · rfl
    · rename_i hl
      have h1 := dec_pos (l := l)
      have h2 : 1 ≤ l.length := by cases l <;> simp_all
      rw [runesF_more f g _ (by rw [List.length_drop]; omega) (by rw [List.length_drop]; omega)]
theorem runes_nil : runes [] = [] := rfl
theorem runes_cons {l : List UInt8} (h : l ≠ []) : runes l = (dec l).1 :: runes (l.drop (dec l).2) := by
  have h1 := dec_pos (l := l)
  have h2 : 1 ≤ l.length := by cases l <;> simp_all
  unfold runes
  rw [show l.length = (l.length - 1) + 1 by omega, runesF, if_neg h, runesF_more (l.length - 1) (l.drop (dec l).2).length _ (by rw [List.length_drop]; omega) (Nat.le_refl _)]
theorem runes_length : ∀ (f : Nat) (l : List UInt8), (runesF f l).length ≤ f
  | 0, _ => by simp [runesF]
  | f + 1, l => by
    unfold runesF
    split
    · simp
    · simp only [List.length_cons]
      have := runes_length f (l.drop (dec l).2)
      omega
theorem runes_le (l : List UInt8) : (runes l).length ≤ l.length := runes_length _ _

/-- How many runes: P2.1. -/
def count (l : List UInt8) : Nat := (runes l).length

def isLetter (r : Nat) : Bool := (decide (97 ≤ r) && decide (r ≤ 122)) || (decide (945 ≤ r) && decide (r ≤ 969)) || (decide (1072 ≤ r) && decide (r ≤ 1103))
def isInner (r : Nat) : Bool := decide (r = 45) || (decide (48 ≤ r) && decide (r ≤ 57))

/-- Is what is left of a name, k runes ahead of it, the rest of one? -/
def rightR : Nat → List Nat → Bool
  | k, [] => decide (0 < k)
  | k, r :: rs => if k = 16 ∨ (isLetter r = false ∧ (k = 0 ∨ isInner r = false)) then false else rightR (k + 1) rs
/-- A name: P2.1. -/
def right (l : List UInt8) : Bool := rightR 0 (runes l)

theorem rightR_inner : ∀ (rs : List Nat) (k : Nat), 0 < k → k ≤ 16 → (rightR k rs = true ↔ (∀ r ∈ rs, isLetter r = true ∨ isInner r = true) ∧ k + rs.length ≤ 16)
  | [], k, h, h' => by simp [rightR, h, h']
  | r :: rs, k, h, h' => by
    unfold rightR
    split
    · rename_i hc
      simp only [Bool.false_eq_true, false_iff, not_and, List.length_cons]
      intro ha
      rcases hc with rfl | ⟨h1, h2 | h2⟩
      · omega
      · omega
      · have := ha r (List.mem_cons_self ..)
        simp [h1, h2] at this
    · rename_i hc
      have hk : k ≠ 16 := fun e => hc (.inl e)
      have hr : isLetter r = true ∨ isInner r = true := by
        cases h1 : isLetter r
        · cases h2 : isInner r
          · exact absurd (.inr ⟨h1, .inr h2⟩) hc
          · exact .inr rfl
        · exact .inl rfl
      rw [rightR_inner rs (k + 1) (by omega) (by omega)]
      constructor
      · rintro ⟨ha, hl⟩
        refine ⟨fun x hx => ?_, by simp only [List.length_cons]; omega⟩
        rcases List.mem_cons.1 hx with rfl | hx
        · exact hr
        · exact ha x hx
      · rintro ⟨ha, hl⟩
        exact ⟨fun x hx => ha x (List.mem_cons_of_mem _ hx), by simp only [List.length_cons] at hl; omega⟩

/-- A name: one to sixteen runes, letters, digits and dashes, the first one a letter. -/
theorem right_iff (l : List UInt8) : right l = true ↔ ∃ r rs, runes l = r :: rs ∧ isLetter r = true ∧ (∀ x ∈ rs, isLetter x = true ∨ isInner x = true) ∧ rs.length ≤ 15 := by
  unfold right
  cases h : runes l with
  | nil => simp [rightR]
  | cons r rs =>
    unfold rightR
    cases hr : isLetter r with
    | false => simp [hr]
    | true =>
      rw [if_neg (by simp), rightR_inner rs 1 (by omega) (by omega)]
      constructor
      · rintro ⟨ha, hl⟩
        exact ⟨r, rs, rfl, hr, ha, by omega⟩
      · rintro ⟨r', rs', e, _, ha, hl⟩
        injection e with e1 e2
        subst e1 e2
        exact ⟨ha, by omega⟩

theorem right_nil : right [] = false := rfl

/-! ### the bytes of a name -/

theorem dec_small {l : List UInt8} (h : (dec l).1 < 2048) (h0 : l ≠ []) : (dec l).2 ≤ 2 ∧ ((dec l).2 = 1 ∧ (dec l).1 = (l.getD 0 0).toNat ∧ (dec l).1 < 128 ∨ (dec l).2 = 2 ∧ 128 ≤ (dec l).1 ∧ 192 ≤ (l.getD 0 0).toNat ∧ 128 ≤ (l.getD 1 0).toNat ∧ 2 ≤ l.length) := by
  have hl : 1 ≤ l.length := by cases l <;> simp_all
  revert h
  unfold dec Lib.decodeN
  generalize (l.getD 0 0).toNat = b0
  generalize (l.getD 1 0).toNat = b1
  generalize (l.getD 2 0).toNat = b2
  generalize (l.getD 3 0).toNat = b3
  repeat' split
  all_goals intro h
  all_goals dsimp only at h ⊢
  all_goals first | omega | (exfalso; omega)

theorem letter_lt {r : Nat} (h : isLetter r = true ∨ isInner r = true) : r < 2048 ∧ r ≠ 47 := by
  simp only [isLetter, isInner, Bool.or_eq_true, Bool.and_eq_true, decide_eq_true_eq] at h
  omega

theorem letters_free : ∀ (f : Nat) (l : List UInt8), l.length ≤ f → (∀ r ∈ runes l, isLetter r = true ∨ isInner r = true) → (47 : UInt8) ∉ l ∧ l.length ≤ 2 * (runes l).length
  | 0, l, hf, _ => by
    obtain rfl : l = [] := List.eq_nil_of_length_eq_zero (by omega)
    simp
  | f + 1, l, hf, h => by
    by_cases hl : l = []
    · subst hl; simp
    have hr := runes_cons hl
    have hd := h (dec l).1 (by rw [hr]; exact List.mem_cons_self ..)
    have hlt := letter_lt hd
    have hsm := dec_small hlt.1 hl
    have hpos := dec_pos (l := l)
    have hlen : 1 ≤ l.length := List.length_pos_iff.2 hl
    have ih := letters_free f (l.drop (dec l).2) (by rw [List.length_drop]; omega) (fun r hr' => h r (by rw [hr]; exact List.mem_cons_of_mem _ hr'))
    refine ⟨fun hm => ?_, ?_⟩
    · rw [← List.take_append_drop (dec l).2 l, List.mem_append] at hm
      rcases hm with hm | hm
      · rcases hsm.2 with ⟨h1, h2, h3⟩ | ⟨h1, h2, h3, h4, h5⟩
        · rw [h1] at hm
          cases l with
          | nil => simp at hl
          | cons c l =>
            simp only [List.take_succ_cons, List.take_zero, List.mem_singleton] at hm
            subst hm
            rw [h2] at hlt
            exact hlt.2 rfl
        · rw [h1] at hm
          match l, h5 with
          | c :: d :: l, _ =>
            simp only [List.take_succ_cons, List.take_zero, List.mem_cons, List.not_mem_nil, or_false] at hm
            rcases hm with rfl | rfl
            · simp at h3
            · simp at h4
      · exact ih.1 hm
    · rw [hr, List.length_cons]
      have := ih.2
      rw [List.length_drop] at this
      omega

/-- A name has no slash, and at most thirty-two bytes. -/
theorem right_free {l : List UInt8} (h : right l = true) : (47 : UInt8) ∉ l ∧ l.length ≤ 32 := by
  obtain ⟨r, rs, e, h1, h2, h3⟩ := (right_iff l).1 h
  have := letters_free l.length l (Nat.le_refl _) (fun x hx => by
    rw [e] at hx
    rcases List.mem_cons.1 hx with rfl | hx
    · exact .inl h1
    · exact h2 x hx)
  rw [e, List.length_cons] at this
  exact ⟨this.1, by omega⟩

/-! ### pieces -/

/-- What stands between slashes. -/
def pieces : List UInt8 → List (List UInt8)
  | [] => [[]]
  | c :: l => if c = 47 then [] :: pieces l else (c :: (pieces l).headD []) :: (pieces l).tail

theorem pieces_ne (l : List UInt8) : pieces l ≠ [] := by
  cases l with
  | nil => simp [pieces]
  | cons c l => unfold pieces; split <;> simp
theorem pieces_free : ∀ {l : List UInt8}, (47 : UInt8) ∉ l → pieces l = [l]
  | [], _ => rfl
  | c :: l, h => by
    have h1 : c ≠ 47 := fun e => h (by rw [e]; exact List.mem_cons_self ..)
    have h2 := pieces_free (l := l) (fun hm => h (List.mem_cons_of_mem _ hm))
    rw [pieces, if_neg h1, h2]
    rfl
theorem pieces_cut : ∀ {a : List UInt8} (b : List UInt8), (47 : UInt8) ∉ a → pieces (a ++ 47 :: b) = a :: pieces b
  | [], b, _ => by simp [pieces]
  | c :: a, b, h => by
    have h1 : c ≠ 47 := fun e => h (by rw [e]; exact List.mem_cons_self ..)
    have h2 := pieces_cut (a := a) b (fun hm => h (List.mem_cons_of_mem _ hm))
    rw [List.cons_append, pieces, if_neg h1, h2]
    rfl

/-- Pieces, slashes between. -/
def glue : List (List UInt8) → List UInt8
  | [] => []
  | [a] => a
  | a :: b :: l => a ++ 47 :: glue (b :: l)
theorem glue_pieces : ∀ (l : List UInt8), glue (pieces l) = l
  | [] => rfl
  | c :: l => by
    have ih := glue_pieces l
    have hne := pieces_ne l
    unfold pieces
    cases hp : pieces l with
    | nil => exact absurd hp hne
    | cons p ps =>
      rw [hp] at ih
      split
      · rename_i h
        subst h
        show [] ++ 47 :: glue (p :: ps) = _
        rw [ih]; rfl
      · simp only [List.headD_cons, List.tail_cons]
        cases ps with
        | nil => show c :: p = _; rw [← ih]; rfl
        | cons q ps => show c :: p ++ 47 :: glue (q :: ps) = _; rw [← ih]; rfl
theorem pieces_glue : ∀ (a : List UInt8) (ls : List (List UInt8)), (∀ x ∈ a :: ls, (47 : UInt8) ∉ x) → pieces (glue (a :: ls)) = a :: ls
  | a, [], h => pieces_free (h a (List.mem_cons_self ..))
  | a, b :: ls, h => by
    show pieces (a ++ 47 :: glue (b :: ls)) = _
    rw [pieces_cut _ (h a (List.mem_cons_self ..)), pieces_glue b ls (fun x hx => h x (List.mem_cons_of_mem _ hx))]

/-- A path's names: P2.2. -/
def parts (l : List UInt8) : List (List UInt8) := if (pieces l).length ≤ 3 ∧ (pieces l).all right = true then pieces l else []

/-- The paths of the first names. -/
def upsOf : List UInt8 → List (List UInt8) → List (List UInt8)
  | _, [] => []
  | p, a :: l => (p ++ a) :: upsOf (p ++ a ++ [47]) l
/-- A path's ups: P2.2. -/
def ups (l : List UInt8) : List (List UInt8) := upsOf [] (parts l)
/-- P2.2. -/
def under (a b : List UInt8) : Bool := decide (a ∈ ups b)

theorem upsOf_length : ∀ (p : List UInt8) (l : List (List UInt8)), (upsOf p l).length = l.length
  | _, [] => rfl
  | p, a :: l => by rw [upsOf, List.length_cons, List.length_cons, upsOf_length]
theorem ups_length (l : List UInt8) : (ups l).length = (parts l).length := upsOf_length _ _

theorem parts_le (l : List UInt8) : (parts l).length ≤ 3 := by
  unfold parts
  split
  · rename_i h; exact h.1
  · simp
theorem parts_right {l a : List UInt8} (h : a ∈ parts l) : right a = true := by
  unfold parts at h
  split at h
  · rename_i hc; exact List.all_eq_true.1 hc.2 a h
  · simp at h
theorem parts_glue {l : List UInt8} (h : parts l ≠ []) : glue (parts l) = l := by
  unfold parts at h ⊢
  split
  · exact glue_pieces l
  · rename_i hc; rw [if_neg hc] at h; exact absurd rfl h
/-- One to three names make a path, whose parts they are. -/
theorem parts_of (a : List UInt8) (ls : List (List UInt8)) (h : ∀ x ∈ a :: ls, right x = true) (hl : ls.length ≤ 2) : parts (glue (a :: ls)) = a :: ls := by
  have hp := pieces_glue a ls (fun x hx => (right_free (h x hx)).1)
  unfold parts
  rw [hp, if_pos ⟨by simp only [List.length_cons]; omega, List.all_eq_true.2 h⟩]
end Go.Proofs.Ytbefnophkaepmaa.Word

/- Plain facts on texts as bytes, whatever they are of: a text's form where it stands, what stands between a byte, which bytes a name lacks; no program. -/
namespace Go.Proofs.Ytbefnophkaepmaa.Forms
open Go.Proofs.Ytbefnophkaepmaa.Word

/-- The bytes of a text's form. -/
def flat (t : ByteArray) : List UInt8 := Wire.putL t.size ++ t.data.toList
theorem flat_len (t : ByteArray) : (flat t).length = (Wire.putL t.size).length + t.size := by rw [flat, List.length_append, size_list]
theorem textV_of {l : List UInt8} {p : Nat} {t : ByteArray} {r : List UInt8} (ht : t.size ≤ 32) (h : l.drop p = flat t ++ r) :
    Wire.textV l (p : Int) 32 = some (p + (Wire.putL t.size).length, p + (flat t).length) := by
  have hs : Wire.Stands t.size (l.drop p) := ⟨by omega, t.data.toList ++ r, by rw [h, flat, List.append_assoc]⟩
  have hlen := congrArg List.length h
  have hpos := Wire.putL_pos t.size
  have hf := flat_len t
  rw [List.length_drop, List.length_append, hf] at hlen
  unfold Wire.textV
  rw [Wire.getV_of hs]
  simp only
  rw [if_neg (by omega), hf, Nat.add_assoc]
theorem extract_of {s : ByteArray} {p : Nat} {t : ByteArray} {r : List UInt8} (h : s.data.toList.drop p = flat t ++ r) : s.extract (p + (Wire.putL t.size).length) (p + (flat t).length) = t := by
  have hf : (flat t).length = (Wire.putL t.size).length + t.data.toList.length := by rw [flat, List.length_append]
  apply ByteArray.ext
  apply Array.toList_inj.1
  rw [Lib.extract_data, ← List.drop_drop, h, flat, List.append_assoc, List.drop_left]
  rw [← flat, show p + (flat t).length - (p + (Wire.putL t.size).length) = t.data.toList.length by omega, List.take_left]

theorem flat_extract {s : ByteArray} {p : Int} {a b : Nat} (h : Wire.textV s.data.toList p 32 = some (a, b)) :
    0 ≤ p ∧ p.toNat ≤ b ∧ b ≤ s.size ∧ s.data.toList.drop p.toNat = flat (s.extract a b) ++ s.data.toList.drop b := by
  unfold Wire.textV at h
  split at h
  · simp at h
  rename_i x hg
  split at h
  · simp at h
  rename_i hc
  obtain ⟨u, n⟩ := x
  simp only [Option.some.injEq, Prod.mk.injEq] at h hc
  obtain ⟨rfl, rfl⟩ := h
  obtain ⟨_, hlt, hle, hp, hn, _, r, hr⟩ := Wire.getV_lt hg
  rw [size_list] at hc hle
  have hd : s.data.toList.drop n = r := by rw [hn, ← List.drop_drop, hr, List.drop_left]
  refine ⟨hp, by omega, by omega, ?_⟩
  have hsz : (s.extract n (n + u)).size = u := by rw [ByteArray.size_extract]; omega
  rw [flat, hsz, Lib.extract_data, hd, Nat.add_sub_cancel_left, ← List.drop_drop, hd, List.append_assoc, List.take_append_drop]
  exact hr
theorem free_of (q : UInt8) (hq : q.toNat < 128) (hql : isLetter q.toNat = false) (hqi : isInner q.toNat = false) : ∀ (f : Nat) (l : List UInt8), l.length ≤ f → (∀ r ∈ runes l, isLetter r = true ∨ isInner r = true) → q ∉ l
  | 0, l, hf, _ => by
    obtain rfl : l = [] := List.eq_nil_of_length_eq_zero (by omega)
    simp
  | f + 1, l, hf, h => by
    by_cases hl : l = []
    · subst hl; simp
    have hr := runes_cons hl
    have hd := h (dec l).1 (by rw [hr]; exact List.mem_cons_self ..)
    have hlt := letter_lt hd
    have hsm := dec_small hlt.1 hl
    have hpos := dec_pos (l := l)
    have hlen : 1 ≤ l.length := List.length_pos_iff.2 hl
    have ih := free_of q hq hql hqi f (l.drop (dec l).2) (by rw [List.length_drop]; omega) (fun r hr' => h r (by rw [hr]; exact List.mem_cons_of_mem _ hr'))
    intro hm
    rw [← List.take_append_drop (dec l).2 l, List.mem_append] at hm
    rcases hm with hm | hm
    · rcases hsm.2 with ⟨h1, h2, h3⟩ | ⟨h1, h2, h3, h4, h5⟩
      · rw [h1] at hm
        cases l with
        | nil => simp at hl
        | cons c l =>
          simp only [List.take_succ_cons, List.take_zero, List.mem_singleton] at hm
          subst hm
          rw [h2] at hd
          simp only [List.getD_cons_zero] at hd
          rw [hql, hqi] at hd
          simp at hd
      · rw [h1] at hm
        match l, h5 with
        | c :: d :: l, _ =>
          simp only [List.take_succ_cons, List.take_zero, List.mem_cons, List.not_mem_nil, or_false] at hm
          simp only [List.getD_cons_zero, List.getD_cons_succ] at h3 h4
          rcases hm with rfl | rfl
          · omega
          · omega
    · exact ih hm
/-- A name lacks every byte that is no letter, digit or dash. -/
theorem name_lacks (q : UInt8) (hq : q.toNat < 128) (hql : isLetter q.toNat = false) (hqi : isInner q.toNat = false) {l : List UInt8} (h : right l = true) : q ∉ l := by
  obtain ⟨r, rs, e, h1, h2, h3⟩ := (right_iff l).1 h
  refine free_of q hq hql hqi l.length l (Nat.le_refl _) fun x hx => ?_
  rw [e] at hx
  rcases List.mem_cons.1 hx with rfl | hx
  · exact .inl h1
  · exact h2 x hx
theorem name_some {l : List UInt8} (h : right l = true) : l ≠ [] := by
  rintro rfl
  rw [right_nil] at h
  cases h

/-- What stands between a byte. -/
def cuts (c : UInt8) : List UInt8 → List (List UInt8)
  | [] => [[]]
  | d :: l => if d = c then [] :: cuts c l else (d :: (cuts c l).headD []) :: (cuts c l).tail
theorem cuts_ne (c : UInt8) (l : List UInt8) : cuts c l ≠ [] := by
  cases l with
  | nil => simp [cuts]
  | cons d l => unfold cuts; split <;> simp
theorem cuts_free {c : UInt8} : ∀ {l : List UInt8}, c ∉ l → cuts c l = [l]
  | [], _ => rfl
  | d :: l, h => by
    have h1 : d ≠ c := fun e => h (by rw [e]; exact List.mem_cons_self ..)
    have h2 := cuts_free (l := l) (fun hm => h (List.mem_cons_of_mem _ hm))
    rw [cuts, if_neg h1, h2]
    rfl
theorem cuts_cut {c : UInt8} : ∀ {a : List UInt8} (b : List UInt8), c ∉ a → cuts c (a ++ c :: b) = a :: cuts c b
  | [], b, _ => by simp [cuts]
  | d :: a, b, h => by
    have h1 : d ≠ c := fun e => h (by rw [e]; exact List.mem_cons_self ..)
    have h2 := cuts_cut (a := a) b (fun hm => h (List.mem_cons_of_mem _ hm))
    rw [List.cons_append, cuts, if_neg h1, h2]
    rfl
def glueC (c : UInt8) : List (List UInt8) → List UInt8
  | [] => []
  | [a] => a
  | a :: b :: l => a ++ c :: glueC c (b :: l)
theorem glue_cuts (c : UInt8) : ∀ (l : List UInt8), glueC c (cuts c l) = l
  | [] => rfl
  | d :: l => by
    have ih := glue_cuts c l
    have hne := cuts_ne c l
    unfold cuts
    cases hp : cuts c l with
    | nil => exact absurd hp hne
    | cons p ps =>
      rw [hp] at ih
      split
      · rename_i h
        subst h
        show [] ++ d :: glueC d (p :: ps) = _
        rw [ih]; rfl
      · simp only [List.headD_cons, List.tail_cons]
        cases ps with
        | nil => show d :: p = _; rw [← ih]; rfl
        | cons q ps => show d :: p ++ c :: glueC c (q :: ps) = _; rw [← ih]; rfl

theorem cuts_glue (c : UInt8) : ∀ (a : List UInt8) (ls : List (List UInt8)), (∀ x ∈ a :: ls, c ∉ x) → cuts c (glueC c (a :: ls)) = a :: ls
  | a, [], h => cuts_free (h a (List.mem_cons_self ..))
  | a, b :: ls, h => by
    show cuts c (a ++ c :: glueC c (b :: ls)) = _
    rw [cuts_cut _ (h a (List.mem_cons_self ..)), cuts_glue c b ls (fun x hx => h x (List.mem_cons_of_mem _ hx))]
theorem cuts_len (c : UInt8) : ∀ (l : List UInt8), (cuts c l).length ≤ l.length + 1 ∧ ∀ t ∈ cuts c l, t.length ≤ l.length
  | [] => by simp [cuts]
  | d :: l => by
    obtain ⟨h1, h2⟩ := cuts_len c l
    have hne := cuts_ne c l
    unfold cuts
    cases hp : cuts c l with
    | nil => exact absurd hp hne
    | cons p ps =>
      rw [hp] at h1 h2
      split
      · refine ⟨by simp at h1 ⊢; omega, fun t ht => ?_⟩
        rcases List.mem_cons.1 ht with rfl | ht
        · simp
        · have := h2 t ht; simp; omega
      · simp only [List.headD_cons, List.tail_cons]
        refine ⟨by simp at h1 ⊢; omega, fun t ht => ?_⟩
        rcases List.mem_cons.1 ht with rfl | ht
        · have := h2 p (List.mem_cons_self ..); simp; omega
        · have := h2 t (List.mem_cons_of_mem _ ht); simp; omega


/-! ### so many, one behind the other -/

/-- So many items, one behind the other, from a place on. -/
def readN {α π : Type} (one : π → Option (α × π)) : Nat → π → Option (List α × π)
  | 0, p => some ([], p)
  | n + 1, p => match one p with
    | none => none
    | some x => match readN one n x.2 with
      | none => none
      | some y => some (x.1 :: y.1, y.2)
def ahead {α π : Type} (done : List α) : Option (List α × π) → Option (List α × π)
  | none => none
  | some x => some (done ++ x.1, x.2)
theorem ahead_nil {α π : Type} (r : Option (List α × π)) : ahead [] r = r := by cases r <;> rfl
theorem readN_go {α π : Type} {one : π → Option (α × π)} {n : Nat} {p q : π} {x : α} {done : List α} (h : one p = some (x, q)) : ahead done (readN one (n + 1) p) = ahead (done ++ [x]) (readN one n q) := by
  rw [readN, h]
  simp only
  cases readN one n q with
  | none => rfl
  | some y => simp [ahead]
theorem readN_stop {α π : Type} {one : π → Option (α × π)} {n : Nat} {p : π} {done : List α} (h : one p = none) : ahead done (readN one (n + 1) p) = none := by
  rw [readN, h]; rfl
theorem readN_len {α π : Type} {one : π → Option (α × π)} : ∀ {n : Nat} {p : π} {x : List α × π}, readN one n p = some x → x.1.length = n
  | 0, p, x, h => by simp [readN] at h; subst h; rfl
  | n + 1, p, x, h => by
    unfold readN at h
    split at h
    · simp at h
    · split at h
      · simp at h
      · rename_i y hy
        simp at h; subst h
        simp [readN_len hy]

/-- What is read where forms stand. -/
theorem readN_of {α : Type} {one : Int → Option (α × Int)} {form : α → List UInt8} {L : List UInt8} {ok : α → Prop}
    (h1 : ∀ (p : Nat) (x : α) (r : List UInt8), ok x → L.drop p = form x ++ r → one (p : Int) = some (x, ((p + (form x).length : Nat) : Int))) :
    ∀ (xs : List α) (p : Nat) (r : List UInt8), (∀ x ∈ xs, ok x) → L.drop p = xs.flatMap form ++ r → readN one xs.length (p : Int) = some (xs, ((p + (xs.flatMap form).length : Nat) : Int))
  | [], p, r, _, _ => by simp [readN]
  | x :: xs, p, r, hok, h => by
    rw [List.flatMap_cons, List.append_assoc] at h
    have h2 : L.drop (p + (form x).length) = xs.flatMap form ++ r := by rw [← List.drop_drop, h, List.drop_left]
    rw [List.length_cons, readN, h1 p x _ (hok x (List.mem_cons_self ..)) h]
    simp only
    rw [readN_of h1 xs _ r (fun y hy => hok y (List.mem_cons_of_mem _ hy)) h2]
    simp only [List.flatMap_cons, List.length_append, Nat.add_assoc]
/-- What was read stands there. -/
theorem readN_back {α : Type} {one : Int → Option (α × Int)} {form : α → List UInt8} {L : List UInt8}
    (h1 : ∀ (p : Nat) (x : α × Int), p ≤ L.length → one (p : Int) = some x → ∃ q : Nat, x.2 = (q : Int) ∧ p ≤ q ∧ q ≤ L.length ∧ L.drop p = form x.1 ++ L.drop q) :
    ∀ (n p : Nat) (x : List α × Int), p ≤ L.length → readN one n (p : Int) = some x → ∃ q : Nat, x.2 = (q : Int) ∧ p ≤ q ∧ q ≤ L.length ∧ L.drop p = x.1.flatMap form ++ L.drop q
  | 0, p, x, hp, h => by
    simp [readN] at h
    subst h
    exact ⟨p, rfl, Nat.le_refl _, hp, by simp⟩
  | n + 1, p, x, hp, h => by
    unfold readN at h
    split at h
    · simp at h
    rename_i y hy
    split at h
    · simp at h
    rename_i z hz
    simp only [Option.some.injEq] at h
    subst h
    obtain ⟨q, g1, g2, g3, g4⟩ := h1 p y hp hy
    rw [g1] at hz
    obtain ⟨q', k1, k2, k3, k4⟩ := readN_back h1 n q z g3 hz
    exact ⟨q', k1, by omega, k3, by rw [g4, k4, List.flatMap_cons, List.append_assoc]⟩

/-- A text of at most so many bytes, and the place behind it. -/
def oneText (s : ByteArray) (p : Int) : Option (ByteArray × Int) := match Wire.textV s.data.toList p 32 with
  | none => none
  | some a => some (s.extract a.1 a.2, (a.2 : Int))
theorem oneText_of {s : ByteArray} (p : Nat) (t : ByteArray) (r : List UInt8) (ht : t.size ≤ 32) (h : s.data.toList.drop p = flat t ++ r) : oneText s (p : Int) = some (t, ((p + (flat t).length : Nat) : Int)) := by
  unfold oneText
  rw [textV_of ht h]
  simp only
  rw [extract_of h]
theorem oneText_back {s : ByteArray} (p : Nat) (x : ByteArray × Int) (_ : p ≤ s.data.toList.length) (h : oneText s (p : Int) = some x) : ∃ q : Nat, x.2 = (q : Int) ∧ p ≤ q ∧ q ≤ s.data.toList.length ∧ s.data.toList.drop p = flat x.1 ++ s.data.toList.drop q := by
  unfold oneText at h
  split at h
  · simp at h
  rename_i a ha
  simp only [Option.some.injEq] at h
  subst h
  obtain ⟨_, h2, h3, h4⟩ := flat_extract (a := a.1) (b := a.2) ha
  simp only [Int.toNat_natCast] at h2 h4
  exact ⟨a.2, rfl, h2, by rw [size_list]; exact h3, h4⟩
end Go.Proofs.Ytbefnophkaepmaa.Forms

/- The plain mathematics of selectors (P5.1 to P5.5): which are right, their forms as bytes and as text, and that each is told back; no program. -/
namespace Go.Proofs.Ytbefnophkaepmaa.Sel
open Go.Proofs.Ytbefnophkaepmaa.Word Go.Proofs.Ytbefnophkaepmaa.Forms

/-- A term: its key, whether it is turned, its values. -/
abbrev Tm := ByteArray × Bool × List ByteArray
def lessB (x y : ByteArray) : Bool := Op.bytesLess x.toList y.toList
def risesV : List ByteArray → Bool
  | x :: y :: r => lessB x y && risesV (y :: r)
  | _ => true
def rightT (t : Tm) : Bool := right t.1.data.toList && (decide (t.2.2.length ≤ 4) && (t.2.2.all (fun v => right v.data.toList) && risesV t.2.2))
/-- A right selector: P5.1. -/
def rightS (ls : List Tm) : Bool := decide (ls.length ≤ 4) && ls.all rightT
/-- Does a term hold, by what is found of its key? P5.2. -/
def holdsT (r : Option ByteArray) (t : Tm) : Bool := (match r with
  | none => false
  | some v => t.2.2.isEmpty || t.2.2.any (fun x => x.toList == v.toList)) != t.2.1
def matchS (find : ByteArray → Option ByteArray) (ls : List Tm) : Bool := ls.all fun t => holdsT (find t.1) t

theorem rightT_parts {t : Tm} (h : rightT t = true) : right t.1.data.toList = true ∧ t.2.2.length ≤ 4 ∧ (∀ v ∈ t.2.2, right v.data.toList = true) ∧ risesV t.2.2 = true := by
  unfold rightT at h
  rw [Bool.and_eq_true, Bool.and_eq_true, Bool.and_eq_true, decide_eq_true_eq, List.all_eq_true] at h
  exact ⟨h.1, h.2.1, h.2.2.1, h.2.2.2⟩
theorem rightS_parts {ls : List Tm} (h : rightS ls = true) : ls.length ≤ 4 ∧ ∀ t ∈ ls, rightT t = true := by
  unfold rightS at h
  rw [Bool.and_eq_true, decide_eq_true_eq, List.all_eq_true] at h
  exact h
theorem name_size {t : ByteArray} (h : right t.data.toList = true) : t.size ≤ 32 := by rw [← size_list]; exact (right_free h).2

/-! ### as bytes -/

def numT (t : Tm) : Nat := 2 * t.2.2.length + (if t.2.1 = true then 1 else 0)
def formT (t : Tm) : List UInt8 := flat t.1 ++ (Wire.putL (numT t) ++ t.2.2.flatMap flat)
/-- The form of a selector: P5.3. -/
def putS (ls : List Tm) : ByteArray := if rightS ls = true then str (Wire.putL ls.length ++ ls.flatMap formT) else ⟨#[]⟩
def oneT (s : ByteArray) (p : Int) : Option (Tm × Int) := match oneText s p with
  | none => none
  | some k => match Wire.getV s.data.toList k.2 with
    | none => none
    | some n => if 9 < n.1 then none else match readN (oneText s) (n.1 / 2) (n.2 : Int) with
      | none => none
      | some vs => some ((k.1, decide (n.1 % 2 = 1), vs.1), vs.2)
def keepS : Option (List Tm × Int) → Option (List Tm × Int)
  | none => none
  | some x => if rightS x.1 = true then some x else none
/-- The selector whose form stands at a place, and the place behind: P5.3. -/
def getS (s : ByteArray) (p : Int) : Option (List Tm × Int) := match Wire.getV s.data.toList p with
  | none => none
  | some a => if 4 < a.1 then none else keepS (readN (oneT s) a.1 a.2)

theorem numT_half (t : Tm) : numT t / 2 = t.2.2.length := by unfold numT; split <;> omega
theorem numT_odd (t : Tm) : decide (numT t % 2 = 1) = t.2.1 := by
  unfold numT
  cases t.2.1
  · simp
  · simp
theorem oneT_of {s : ByteArray} (p : Nat) (t : Tm) (r : List UInt8) (ht : rightT t = true) (h : s.data.toList.drop p = formT t ++ r) : oneT s (p : Int) = some (t, ((p + (formT t).length : Nat) : Int)) := by
  obtain ⟨h1, h2, h3, _⟩ := rightT_parts ht
  unfold formT at h
  rw [List.append_assoc, List.append_assoc] at h
  have hn9 : numT t ≤ 9 := by unfold numT; split <;> omega
  unfold oneT
  rw [oneText_of p t.1 _ (name_size h1) h]
  simp only
  have e1 : s.data.toList.drop (p + (flat t.1).length) = Wire.putL (numT t) ++ (t.2.2.flatMap flat ++ r) := by rw [← List.drop_drop, h, List.drop_left]
  rw [Wire.getV_of (u := numT t) ⟨by omega, _, e1⟩]
  simp only
  have e2 : s.data.toList.drop (p + (flat t.1).length + (Wire.putL (numT t)).length) = t.2.2.flatMap flat ++ r := by rw [← List.drop_drop, e1, List.drop_left]
  rw [if_neg (by omega), numT_half, readN_of (form := flat) (ok := fun v => v.size ≤ 32) (fun p x r hx hd => oneText_of p x r hx hd) t.2.2 _ r (fun v hv => name_size (h3 v hv)) e2]
  simp only [numT_odd, formT, List.length_append, Nat.add_assoc]
theorem oneT_back {s : ByteArray} (p : Nat) (x : Tm × Int) (hp : p ≤ s.data.toList.length) (h : oneT s (p : Int) = some x) : ∃ q : Nat, x.2 = (q : Int) ∧ p ≤ q ∧ q ≤ s.data.toList.length ∧ s.data.toList.drop p = formT x.1 ++ s.data.toList.drop q := by
  unfold oneT at h
  split at h
  · simp at h
  rename_i k hk
  obtain ⟨q1, a1, a2, a3, a4⟩ := oneText_back p k hp hk
  rw [a1] at h
  split at h
  · simp at h
  rename_i n hn
  split at h
  · simp at h
  split at h
  · simp at h
  rename_i vs hvs
  simp only [Option.some.injEq] at h
  subst h
  obtain ⟨_, b1, b2, _, b4, _, r, b5⟩ := Wire.getV_lt (u := n.1) (n := n.2) hn
  simp only [Int.toNat_natCast] at b1 b4 b5
  obtain ⟨q, c1, c2, c3, c4⟩ := readN_back (form := flat) oneText_back (n.1 / 2) n.2 vs b2 hvs
  have hlen := readN_len hvs
  have hd : s.data.toList.drop n.2 = r := by rw [b4, ← List.drop_drop, b5, List.drop_left]
  have hnum : numT (k.1, decide (n.1 % 2 = 1), vs.1) = n.1 := by
    unfold numT
    simp only [hlen, decide_eq_true_eq]
    split <;> omega
  refine ⟨q, c1, by omega, c3, ?_⟩
  unfold formT
  rw [hnum, List.append_assoc, List.append_assoc, ← c4, hd, ← b5]
  exact a4

theorem putS_list {ls : List Tm} (h : rightS ls = true) : (putS ls).data.toList = Wire.putL ls.length ++ ls.flatMap formT := by
  unfold putS
  rw [if_pos h, str_toList]
/-- What is put of a right selector is got where it stands. -/
theorem get_put {s : ByteArray} {p : Nat} {ls : List Tm} {r : List UInt8} (hr : rightS ls = true) (h : s.data.toList.drop p = (putS ls).data.toList ++ r) :
    getS s (p : Int) = some (ls, ((p + (putS ls).size : Nat) : Int)) := by
  obtain ⟨h4, ht⟩ := rightS_parts hr
  rw [putS_list hr, List.append_assoc] at h
  unfold getS
  rw [Wire.getV_of (u := ls.length) ⟨by omega, _, h⟩]
  simp only
  rw [if_neg (by omega), readN_of (form := formT) (ok := fun t => rightT t = true) (fun p x r hx hd => oneT_of p x r hx hd) ls (p + (Wire.putL ls.length).length) r ht (by rw [← List.drop_drop, h, List.drop_left])]
  show (if rightS ls = true then _ else _) = _
  rw [if_pos hr, ← size_list (putS ls), putS_list hr, List.length_append, Nat.add_assoc]
/-- What is got is right, and is put as the bytes that stand there. -/
theorem get_back {s : ByteArray} {p : Int} {ls : List Tm} {n : Int} (h : getS s p = some (ls, n)) :
    rightS ls = true ∧ ∃ a b : Nat, p = (a : Int) ∧ n = (b : Int) ∧ a ≤ b ∧ b ≤ s.size ∧ putS ls = s.extract a b := by
  unfold getS at h
  split at h
  · simp at h
  rename_i x hg
  split at h
  · simp at h
  obtain ⟨u, q⟩ := x
  obtain ⟨_, hlt, hle, hp, hq, _, r, hr⟩ := Wire.getV_lt hg
  obtain ⟨a, rfl⟩ := Int.eq_ofNat_of_zero_le hp
  simp only [Int.toNat_natCast] at hlt hq hr
  unfold keepS at h
  split at h
  · simp at h
  rename_i y hy
  split at h
  · rename_i hri
    simp only [Option.some.injEq] at h
    subst h
    obtain ⟨b, h1, h2, h3, h4⟩ := readN_back (form := formT) oneT_back u q _ hle hy
    have hul := readN_len hy
    rw [size_list] at h3
    refine ⟨hri, a, b, rfl, h1, by omega, h3, ?_⟩
    have hd : s.data.toList.drop q = r := by rw [hq, ← List.drop_drop, hr, List.drop_left]
    have hd2 : s.data.toList.drop a = (putS ls).data.toList ++ s.data.toList.drop b := by
      rw [putS_list hri, List.append_assoc, ← h4, hr, hd]
      simp only at hul
      rw [hul]
    apply ByteArray.ext
    apply Array.toList_inj.1
    have hlen := congrArg List.length hd2
    rw [List.length_drop, List.length_append, List.length_drop, size_list s] at hlen
    rw [Lib.extract_data, hd2, show b - a = (putS ls).data.toList.length by omega, List.take_left]
  · simp at h
theorem putS_inj {a b : List Tm} (ha : rightS a = true) (hb : rightS b = true) (h : putS a = putS b) : a = b := by
  have g1 := get_put (s := putS a) (p := 0) (r := []) ha (by simp)
  have g2 := get_put (s := putS b) (p := 0) (r := []) hb (by simp)
  rw [h, g2] at g1
  simp only [Option.some.injEq, Prod.mk.injEq] at g1
  exact g1.1.symm
theorem putS_pos {a : List Tm} (ha : rightS a = true) : 0 < (putS a).size := by
  rw [← size_list, putS_list ha, List.length_append]
  have := Wire.putL_pos a.length
  omega
theorem putS_no {a : List Tm} (ha : rightS a = false) : putS a = ⟨#[]⟩ := by
  unfold putS
  rw [if_neg (by rw [ha]; simp)]

/-! ### as text -/

/-- A term as it is shown. -/
def showT (t : Tm) : List UInt8 :=
  if t.2.2 = [] then (if t.2.1 = true then 33 :: t.1.data.toList else t.1.data.toList)
  else t.1.data.toList ++ ((if t.2.1 = true then [33] else []) ++ 61 :: glueC 124 (t.2.2.map fun v => v.data.toList))
/-- A selector as it is shown: P5.4. -/
def textS (ls : List Tm) : ByteArray := if rightS ls = true then (if ls = [] then ⟨#[45]⟩ else str (glueC 44 (ls.map showT))) else ⟨#[63]⟩
def twoT : List (List UInt8) → Option (List UInt8 × List UInt8)
  | [a, b] => some (a, b)
  | _ => none
/-- A term of a text. -/
def readT (q : List UInt8) : Tm :=
  if q.head? = some 33 then (str q.tail, true, []) else
  match twoT (cuts 61 q) with
  | none => (str q, false, [])
  | some x => if x.1.getLast? = some 33 then (str x.1.dropLast, true, (cuts 124 x.2).map str) else (str x.1, false, (cuts 124 x.2).map str)
/-- The right selector whose text that is: P5.4. -/
def parseS (s : ByteArray) : Option (List Tm) :=
  if s = ⟨#[45]⟩ then some [] else
  if rightS ((cuts 44 s.data.toList).map readT) = true ∧ textS ((cuts 44 s.data.toList).map readT) = s then some ((cuts 44 s.data.toList).map readT) else none

theorem mem_glue {c x : UInt8} : ∀ {ls : List (List UInt8)}, x ∈ glueC c ls → x = c ∨ ∃ l ∈ ls, x ∈ l
  | [], h => by simp [glueC] at h
  | [a], h => .inr ⟨a, by simp, h⟩
  | a :: b :: ls, h => by
    rcases List.mem_append.1 (show x ∈ a ++ c :: glueC c (b :: ls) from h) with h | h
    · exact .inr ⟨a, by simp, h⟩
    · rcases List.mem_cons.1 h with h | h
      · exact .inl h
      · rcases mem_glue h with h | ⟨l, h1, h2⟩
        · exact .inl h
        · exact .inr ⟨l, List.mem_cons_of_mem _ h1, h2⟩
theorem glue_lacks {c x : UInt8} {vs : List ByteArray} (hx : x.toNat < 128) (hl : isLetter x.toNat = false) (hi : isInner x.toNat = false) (hne : x ≠ c) (h : ∀ v ∈ vs, right v.data.toList = true) : x ∉ glueC c (vs.map fun v => v.data.toList) := by
  intro hm
  rcases mem_glue hm with e | ⟨l, h1, h2⟩
  · exact hne e
  · obtain ⟨v, hv, rfl⟩ := List.mem_map.1 h1
    exact name_lacks x hx hl hi (h v hv) h2
theorem str_all (vs : List ByteArray) : (vs.map fun v => v.data.toList).map str = vs := by
  rw [List.map_map]
  conv => rhs; rw [← List.map_id vs]
  apply List.map_congr_left
  intro v _
  exact str_data v
theorem head_not {l : List UInt8} {r : List UInt8} (h : right l = true) : (l ++ r).head? ≠ some 33 := by
  cases l with
  | nil => exact absurd rfl (name_some h)
  | cons d l =>
    intro e
    simp at e
    subst e
    exact name_lacks 33 (by decide) (by decide) (by decide) h (List.mem_cons_self ..)
/-- What is shown of a term is read as it. -/
theorem readT_show {t : Tm} (ht : rightT t = true) : readT (showT t) = t := by
  obtain ⟨h1, _, h3, _⟩ := rightT_parts ht
  obtain ⟨k, n, vs⟩ := t
  simp only at h1 h3
  have hk61 : (61 : UInt8) ∉ k.data.toList := name_lacks 61 (by decide) (by decide) (by decide) h1
  have hk33 : (33 : UInt8) ∉ k.data.toList := name_lacks 33 (by decide) (by decide) (by decide) h1
  cases vs with
  | nil =>
    cases n with
    | true =>
      have e : showT (k, true, []) = 33 :: k.data.toList := by unfold showT; simp
      rw [e]
      unfold readT
      rw [if_pos (by simp)]
      simp [str_data]
    | false =>
      have e : showT (k, false, []) = k.data.toList := by unfold showT; simp
      rw [e]
      unfold readT
      rw [if_neg (by have := head_not (r := []) h1; rwa [List.append_nil] at this), cuts_free hk61]
      simp [twoT, str_data]
  | cons v vs =>
    have hv61 := glue_lacks (x := 61) (c := 124) (vs := v :: vs) (by decide) (by decide) (by decide) (by decide) h3
    have hcut : cuts 124 (glueC 124 ((v :: vs).map fun v => v.data.toList)) = (v :: vs).map fun v => v.data.toList := by
      rw [List.map_cons]
      refine cuts_glue 124 _ _ fun x hx => ?_
      obtain ⟨u, hu, rfl⟩ := List.mem_map.1 (show x ∈ (v :: vs).map (fun v => v.data.toList) from hx)
      exact name_lacks 124 (by decide) (by decide) (by decide) (h3 u hu)
    have hhead : ∀ r, (k.data.toList ++ r).head? ≠ some 33 := fun r => head_not h1
    cases n with
    | true =>
      have e : showT (k, true, v :: vs) = k.data.toList ++ [33] ++ 61 :: glueC 124 ((v :: vs).map fun v => v.data.toList) := by unfold showT; rw [if_neg (by simp)]; simp
      rw [e]
      unfold readT
      rw [if_neg (by rw [List.append_assoc]; exact hhead _), cuts_cut _ (by rw [List.mem_append, List.mem_singleton]; rintro (h | h); exact hk61 h; exact absurd h (by decide)), cuts_free hv61]
      simp only [twoT]
      rw [if_pos (by simp), hcut, str_all]
      simp [str_data]
    | false =>
      have e : showT (k, false, v :: vs) = k.data.toList ++ 61 :: glueC 124 ((v :: vs).map fun v => v.data.toList) := by unfold showT; rw [if_neg (by simp)]; simp
      rw [e]
      unfold readT
      rw [if_neg (hhead _), cuts_cut _ hk61, cuts_free hv61]
      simp only [twoT]
      rw [if_neg (by intro e; exact hk33 (List.mem_of_getLast? e)), hcut, str_all, str_data]
theorem showT_lacks {t : Tm} (ht : rightT t = true) : (44 : UInt8) ∉ showT t := by
  obtain ⟨h1, _, h3, _⟩ := rightT_parts ht
  have hk : (44 : UInt8) ∉ t.1.data.toList := name_lacks 44 (by decide) (by decide) (by decide) h1
  have hv := glue_lacks (x := 44) (c := 124) (vs := t.2.2) (by decide) (by decide) (by decide) (by decide) h3
  unfold showT
  split
  · split
    · rw [List.mem_cons]
      rintro (h | h)
      · cases h
      · exact hk h
    · exact hk
  · rw [List.mem_append, List.mem_append, List.mem_cons]
    rintro (h | h | h | h)
    · exact hk h
    · split at h
      · rw [List.mem_singleton] at h; cases h
      · cases h
    · cases h
    · exact hv h
theorem textS_cons {t : Tm} {ls : List Tm} (h : rightS (t :: ls) = true) : textS (t :: ls) = str (glueC 44 ((t :: ls).map showT)) := by
  unfold textS
  rw [if_pos h, if_neg (by simp)]
theorem cuts_text {t : Tm} {ls : List Tm} (h : rightS (t :: ls) = true) : (cuts 44 (textS (t :: ls)).data.toList).map readT = t :: ls := by
  have ht := (rightS_parts h).2
  rw [textS_cons h, str_toList, List.map_cons, cuts_glue 44 _ _ (fun x hx => by
    obtain ⟨u, hu, rfl⟩ := List.mem_map.1 (show x ∈ (t :: ls).map showT from hx)
    exact showT_lacks (ht u hu))]
  show ((t :: ls).map showT).map readT = _
  rw [List.map_map]
  conv => rhs; rw [← List.map_id (t :: ls)]
  apply List.map_congr_left
  intro u hu
  exact readT_show (ht u hu)
/-- What is shown of a right selector is parsed. -/
theorem parse_text {ls : List Tm} (h : rightS ls = true) : parseS (textS ls) = some ls := by
  cases ls with
  | nil =>
    have e : textS [] = ⟨#[45]⟩ := rfl
    rw [e]
    unfold parseS
    rw [if_pos rfl]
  | cons t ls =>
    have hc := cuts_text h
    unfold parseS
    rw [hc, if_neg, if_pos ⟨h, rfl⟩]
    intro e
    rw [e] at hc
    have h1 : (cuts 44 (⟨#[45]⟩ : ByteArray).data.toList).map readT = [(str [45], false, [])] := by decide +kernel
    rw [h1] at hc
    injection hc with h2 h3
    have h4 := (rightT_parts ((rightS_parts h).2 t (List.mem_cons_self ..))).1
    rw [← h2] at h4
    exact absurd h4 (by decide +kernel)
/-- What is parsed is right, and is shown as it was. -/
theorem parse_back {s : ByteArray} {ls : List Tm} (h : parseS s = some ls) : rightS ls = true ∧ textS ls = s := by
  unfold parseS at h
  split at h
  · rename_i e
    simp only [Option.some.injEq] at h
    subst h
    exact ⟨rfl, by rw [e]; rfl⟩
  split at h
  · rename_i hc
    simp only [Option.some.injEq] at h
    subst h
    exact hc
  · simp at h
/-- Only one right selector has a text. -/
theorem parse_iff {s : ByteArray} {ls : List Tm} : parseS s = some ls ↔ rightS ls = true ∧ textS ls = s :=
  ⟨parse_back, fun ⟨h, e⟩ => by rw [← e]; exact parse_text h⟩
theorem textS_inj {a b : List Tm} (ha : rightS a = true) (hb : rightS b = true) (h : textS a = textS b) : a = b := by
  have g1 := parse_text ha
  have g2 := parse_text hb
  rw [h, g2] at g1
  simpa using g1.symm
/-- What is shown of a right selector is no question mark. -/
theorem textS_ne {a : List Tm} (ha : rightS a = true) : textS a ≠ ⟨#[63]⟩ := by
  intro e
  have h := parse_text ha
  rw [e] at h
  have hb : parseS ⟨#[63]⟩ = none := by
    unfold parseS
    rw [if_neg (by decide), if_neg]
    rintro ⟨h1, _⟩
    exact absurd h1 (by decide +kernel)
  rw [hb] at h
  cases h
end Go.Proofs.Ytbefnophkaepmaa.Sel

/- Selectors in memory, and as arguments: a slice of terms, each a text, a bool and a slice of texts; of no program. -/
namespace Go.Proofs.Ytbefnophkaepmaa.Sel
open Go.ChangeShapes Go.WideShapes Go.ChangeAt Go.RowKit Go.Proofs.Ytbefnophkaepmaa.Texts

/-- Terms in cells. -/
def TCells (w : World) (g o : Nat) (ls : List Tm) : Prop :=
  ∀ j t, ls[j]? = some t → w.cell? ⟨g, o + j * 3, none⟩ = some (.string t.1) ∧ w.cell? ⟨g, o + j * 3 + 1, none⟩ = some (.bool t.2.1) ∧ ∃ v, w.cell? ⟨g, o + j * 3 + 2, none⟩ = some v ∧ SRow w v t.2.2
/-- A slice of terms. -/
def TRow (w : World) (v : Value) (ls : List Tm) : Prop :=
  (ls = [] ∧ ∃ a cap, v = .slice a 0 cap ∧ cap ≤ maxLen) ∨ (ls ≠ [] ∧ ∃ g o cap, v = .slice (some ⟨g, o, none⟩) ls.length cap ∧ g < w.heap.size ∧ ls.length ≤ cap ∧ cap ≤ maxLen ∧ TCells w g o ls)
theorem TCells.below {w w' : World} {g o : Nat} {ls : List Tm} (h : TCells w g o ls) (hg : g < w.heap.size) (hb : Below w.heap.size w w') : TCells w' g o ls := fun j t hj => by
  obtain ⟨h1, h2, v, h3, h4⟩ := h j t hj
  rw [hb.cell (p := ⟨g, o + j * 3, none⟩) hg, hb.cell (p := ⟨g, o + j * 3 + 1, none⟩) hg]
  exact ⟨h1, h2, v, by rw [hb.cell (p := ⟨g, o + j * 3 + 2, none⟩) hg]; exact h3, h4.below hb⟩
theorem TRow.below {w w' : World} {v : Value} {ls : List Tm} (h : TRow w v ls) (hb : Below w.heap.size w w') : TRow w' v ls := by
  rcases h with h | ⟨h0, g, o, cap, h1, h2, h3, h4, h5⟩
  · exact .inl h
  · exact .inr ⟨h0, g, o, cap, h1, by have := hb.size; omega, h3, h4, h5.below h2 hb⟩
theorem TRow.slice {w : World} {v : Value} {ls : List Tm} (h : TRow w v ls) : ∃ a cap, v = .slice a ls.length cap ∧ ls.length ≤ cap ∧ cap ≤ maxLen := by
  rcases h with ⟨rfl, a, cap, rfl, hm⟩ | ⟨_, g, o, cap, rfl, _, hc, hm, _⟩
  · exact ⟨_, _, rfl, Nat.zero_le _, hm⟩
  · exact ⟨_, _, rfl, hc, hm⟩
theorem TRow.cells {w : World} {a : Option Addr} {cap k n : Nat} {ls : List Tm} (h : TRow w (.slice a n cap) ls) (hk : k < ls.length) : ∃ g o, a = some ⟨g, o, none⟩ ∧ g < w.heap.size ∧ TCells w g o ls := by
  rcases h with ⟨rfl, _⟩ | ⟨_, g, o, cap', hsl, hg, _, _, hcell⟩
  · simp at hk
  · injection hsl with h1 _ _
    exact ⟨g, o, h1, hg, hcell⟩
theorem TRow.nil (w : World) : TRow w (.slice none 0 0) [] := .inl ⟨rfl, _, _, rfl, Nat.zero_le _⟩

section
variable {H : Type} {enc : TypeId × Value → H} {P : Program}

/-- What is read of a term. -/
def TData (t : Tm) (d : DataW H) : Prop := ∃ dv, d = .agg [.lit (.string t.1.data.toList), .lit (.bool t.2.1), dv] ∧ ReadS t.2.2 dv
/-- What is read of a selector. -/
def LData (ls : List Tm) (d : DataW H) : Prop := (d = .nil ∧ ls = []) ∨ ∃ D rest, d = .slice ((List.range ls.length).map D) rest ∧ ∀ i t, ls[i]? = some t → TData t (D i)

/-- An argument of terms, opened. -/
theorem open_terms {t e ts es : TypeId} {f0 f1 f2 : Field} (ht : P.underlying t = some (.slice e)) (he : P.underlying e = some (.struct #[f0, f1, f2])) (ce : P.cellsOf e = 3)
    (o0 : f0.offset = 0) (o1 : f1.offset = 1) (o2 : f2.offset = 2) (c0 : P.cellsOf f0.type = 1) (c1 : P.cellsOf f1.type = 1) (c2 : P.cellsOf f2.type = 1)
    (u0 : P.underlying f0.type = some .string) (u1 : P.underlying f1.type = some .bool) (u2 : f2.type = ts) (us : P.underlying ts = some (.slice es)) (ue : P.underlying es = some .string) (ces : P.cellsOf es = 1)
    {W : World} {base : Nat} {v : Value} {d : DataW H} {p : List MemPlace} (hval : Value.okWide P W .any base t v) (h : DataW.Trod enc P W 0 (fun _ => true) true t v d p) : ∃ ls, TRow W v ls ∧ LData ls d := by
  obtain ⟨a1, len, cap, rfl⟩ := okWide_slice ht hval
  obtain ⟨fuel, hf⟩ := h
  rcases Deep.open_slice ht hf with ⟨hcs, hx⟩ | ⟨a, len', cap', m, n, D, Pl, hcs, _, hl, hm, hmm, hx, hi⟩
  · simp [Value.cells] at hcs
    obtain ⟨rfl, rfl, rfl⟩ := hcs
    simp only [Prod.mk.injEq] at hx
    exact ⟨[], TRow.nil W, .inl ⟨hx.1, rfl⟩⟩
  · simp [Value.cells] at hcs
    obtain ⟨rfl, rfl, rfl⟩ := hcs
    simp only [if_true] at hmm
    subst hmm
    simp only [Prod.mk.injEq] at hx
    rw [ce] at hi
    have each : ∀ i, i < m → ∃ t : Tm, (W.cell? (a.add (i * 3)) = some (.string t.1) ∧ W.cell? (a.add (i * 3 + 1)) = some (.bool t.2.1) ∧ ∃ v, W.cell? (a.add (i * 3 + 2)) = some v ∧ SRow W v t.2.2) ∧ TData t (D i) := fun i him => by
      obtain ⟨cs', h1, h2⟩ := hi i him
      obtain ⟨_, hlen, hcell⟩ := World.cells?_some h1
      obtain ⟨y0, y1, y2, k, hy, _, g0, g1, g2⟩ := Deep.trod_struct3 he h2
      match cs', hlen with
      | [w0, w1, w2], _ =>
        rw [o0, c0] at g0
        rw [o1, c1] at g1
        rw [o2, c2, u2] at g2
        simp at g0 g1 g2
        obtain ⟨b0, e0, q0, _⟩ := DataW.trod_string u0 g0
        obtain ⟨b1, e1, q1⟩ := DataW.trod_bool u1 g1
        obtain ⟨vs, hs, hd⟩ := open_cells us ue ces g2
        simp only [List.cons.injEq, and_true] at e0 e1
        have k0 := hcell 0 (by omega)
        have k1 := hcell 1 (by omega)
        have k2 := hcell 2 (by omega)
        rw [Deep.add_add] at k0 k1 k2
        simp only [Prod.mk.injEq] at hy
        refine ⟨(b0, b1, vs), ⟨by simpa [e0] using k0, by simpa [e1] using k1, w2, by simpa using k2, hs⟩, y2.1, ?_, hd⟩
        rw [hy.1, q0, q1]
    obtain ⟨T, hT⟩ := Deep.choose_lt (α := Tm) each
    have hlen : ((List.range len).map T).length = len := by simp
    refine ⟨(List.range len).map T, ?_, .inr ⟨D, _, by rw [hlen]; exact hx.1, fun i t hit => ?_⟩⟩
    · by_cases hz : len = 0
      · subst hz
        exact .inl ⟨rfl, _, _, rfl, hm⟩
      · obtain ⟨ab, ao, spot⟩ := a
        have h0 := (hT 0 (by omega)).1.1
        have hspot : spot = none := by simpa [Addr.add] using World.cell?_spot h0
        subst hspot
        refine .inr ⟨fun hn => by rw [hn] at hlen; simp at hlen; omega, ab, ao, m, by rw [hlen], World.block_lt_of_cell? (a := ⟨ab, ao, none⟩) _ (by simpa [Addr.add] using h0), by rw [hlen]; exact hl, hm, fun k x hk => ?_⟩
        obtain ⟨hk1, rfl⟩ := List.getElem?_eq_some_iff.1 hk
        rw [hlen] at hk1
        obtain ⟨⟨g0, g1, v, g2, g3⟩, _⟩ := hT k (by omega)
        rw [Addr.add_lit] at g0 g1 g2
        simp only [List.getElem_map, List.getElem_range]
        exact ⟨g0, by rw [Nat.add_assoc]; exact g1, v, by rw [Nat.add_assoc]; exact g2, g3⟩
    · obtain ⟨hk1, rfl⟩ := List.getElem?_eq_some_iff.1 hit
      rw [hlen] at hk1
      simp only [List.getElem_map, List.getElem_range]
      exact (hT i (by omega)).2

/-- By the bulk: how many, how long. -/
theorem LData.bulk {ls : List Tm} {d : DataW H} (h : LData ls d) : ls.length ≤ Rows.uptoBulk d ∧ ∀ t ∈ ls, t.1.size ≤ Rows.uptoBulk d ∧ t.2.2.length ≤ Rows.uptoBulk d ∧ ∀ x ∈ t.2.2, x.size ≤ Rows.uptoBulk d := by
  rcases h with ⟨_, rfl⟩ | ⟨D, rest, rfl, hD⟩
  · exact ⟨by simp, fun x hx => by simp at hx⟩
  · simp only [Rows.uptoBulk]
    refine ⟨?_, fun t ht => ?_⟩
    · have := bulk_len ((List.range ls.length).map D)
      simp at this
      omega
    · obtain ⟨i, hi⟩ := List.mem_iff_getElem?.1 ht
      obtain ⟨dv, e, hd⟩ := hD i t hi
      have hil := (List.getElem?_eq_some_iff.1 hi).1
      have hm : D i ∈ (List.range ls.length).map D := List.mem_map.2 ⟨i, List.mem_range.2 hil, rfl⟩
      have h1 := bulk_mem hm
      rw [e] at h1
      simp only [Rows.uptoBulk, Rows.uptoBulkAll] at h1
      have h2 : t.1.data.toList.length = t.1.size := Array.length_toList
      obtain ⟨h3, h4⟩ := hd.bulk
      exact ⟨by omega, by omega, fun x hx => by have := h4 x hx; omega⟩
/-- By the reach: how many, how long. -/
theorem LData.reach {t e ts es : TypeId} {f0 f1 f2 : Field} {ls : List Tm} {d : DataW H} {B : Nat} (h : LData ls d) (ht : P.underlying t = some (.slice e)) (he : P.underlying e = some (.struct #[f0, f1, f2])) (hby : P.bytesOf e = 48) (u2 : f2.type = ts) (us : P.underlying ts = some (.slice es)) (hbs : P.bytesOf es = 16)
    (hB : ∀ n ∈ d.weights P t, n ≤ B) : ls.length * 48 ≤ B ∧ ∀ t ∈ ls, t.1.size ≤ B ∧ t.2.2.length * 16 ≤ B ∧ ∀ x ∈ t.2.2, x.size ≤ B := by
  rcases h with ⟨_, rfl⟩ | ⟨D, rest, rfl, hD⟩
  · exact ⟨by simp, fun x hx => by simp at hx⟩
  · simp only [DataW.weights, ht, hby] at hB
    refine ⟨?_, fun t ht => ?_⟩
    · have := hB _ (List.mem_cons_self ..)
      simp only [List.length_map, List.length_range] at this
      have h2 : ls.length * 48 ≤ (ls.length + rest.length) * 48 := Nat.mul_le_mul_right _ (Nat.le_add_right _ _)
      omega
    · obtain ⟨i, hi⟩ := List.mem_iff_getElem?.1 ht
      obtain ⟨dv, e', hd⟩ := hD i t hi
      have hil := (List.getElem?_eq_some_iff.1 hi).1
      have hm : D i ∈ (List.range ls.length).map D := List.mem_map.2 ⟨i, List.mem_range.2 hil, rfl⟩
      have hall : ∀ n ∈ (D i).weights P e, n ≤ B := fun n hn => hB n (List.mem_cons_of_mem _ (List.mem_append_left _ (weights_all hm n hn)))
      rw [e'] at hall
      simp only [DataW.weights, he, List.map_cons, List.map_nil, DataW.weightsEach] at hall
      have h1 := hall t.1.data.toList.length (by simp)
      rw [Array.length_toList] at h1
      have h2 := hd.reach (t := ts) us hbs (fun n hn => hall n (by rw [← u2] at hn; simp [hn]))
      exact ⟨h1, h2.1, h2.2⟩
end
end Go.Proofs.Ytbefnophkaepmaa.Sel

/- What word.Right and word.Count answer, for every text; of memory that was there nothing turns. -/
namespace Go.Proofs.Ytbefnophkaepmaa.Word
open Go.RowKit


theorem iter_below (w : World) (s : ByteArray) (pos : Nat) : Below w.heap.size w (w.iter s pos) := (Below.refl _ _).alloc (Nat.le_refl _) _

theorem rightR_stop {k r : Nat} {rs : List Nat} (h : k = 16 ∨ (isLetter r = false ∧ (k = 0 ∨ isInner r = false))) : rightR k (r :: rs) = false := by rw [rightR, if_pos h]
theorem rightR_step {k r : Nat} {rs : List Nat} (h : ¬ (k = 16 ∨ (isLetter r = false ∧ (k = 0 ∨ isInner r = false)))) : rightR k (r :: rs) = rightR (k + 1) rs := by rw [rightR, if_neg h]

end Go.Proofs.Ytbefnophkaepmaa.Word

/- Labels in memory: a slice of pairs of texts; what label.Find answers of any, and that of memory that was there nothing turns. -/
namespace Go.Proofs.Ytbefnophkaepmaa.Label
open Go.RowKit Go.Proofs.Ytbefnophkaepmaa.Word

/-- A pair of texts. -/
abbrev Pr := ByteArray × ByteArray
def enc (x : Pr) : List Value := [.string x.1, .string x.2]
/-- The cells from a place on hold these pairs. -/
def Cells (w : World) (g o : Nat) (ls : List Pr) : Prop :=
  ∀ j x, ls[j]? = some x → w.cell? ⟨g, o + j * 2, none⟩ = some (.string x.1) ∧ w.cell? ⟨g, o + j * 2 + 1, none⟩ = some (.string x.2)
/-- A slice of these pairs. -/
def Row (w : World) (v : Value) (ls : List Pr) : Prop :=
  (ls = [] ∧ ∃ a cap, v = .slice a 0 cap ∧ cap ≤ maxLen) ∨ (ls ≠ [] ∧ ∃ g o cap, v = .slice (some ⟨g, o, none⟩) ls.length cap ∧ g < w.heap.size ∧ ls.length ≤ cap ∧ cap ≤ maxLen ∧ Cells w g o ls)
theorem Cells.below {w w' : World} {g o : Nat} {ls : List Pr} (h : Cells w g o ls) (hg : g < w.heap.size) (hb : Below w.heap.size w w') : Cells w' g o ls := fun j x hj => by
  rw [hb.cell (p := ⟨g, o + j * 2, none⟩) hg, hb.cell (p := ⟨g, o + j * 2 + 1, none⟩) hg]
  exact h j x hj
theorem Row.below {w w' : World} {v : Value} {ls : List Pr} (h : Row w v ls) (hb : Below w.heap.size w w') : Row w' v ls := by
  rcases h with h | ⟨h0, g, o, cap, h1, h2, h3, h4, h5⟩
  · exact .inl h
  · exact .inr ⟨h0, g, o, cap, h1, by have := hb.size; omega, h3, h4, h5.below h2 hb⟩
theorem Cells.load {w : World} {g o : Nat} {ls : List Pr} (h : Cells w g o ls) {j : Nat} {x : Pr} (hj : ls[j]? = some x) (P : Program) :
    Sem.run P (loadCellsFrom ⟨g, o + j * 2, none⟩ 0 2 #[]) w = .ok #[.string x.1, .string x.2] w := by
  refine run_loadCellsFrom_list P w _ [.string x.1, .string x.2] 2 rfl ?_
  intro i v hi
  rw [Addr.add_lit]
  have := h j x hj
  match i with
  | 0 => simp at hi; subst hi; exact this.1
  | 1 => simp at hi; subst hi; exact this.2
  | (n + 2) => simp at hi

/-- The value of the first pair of that key. -/
def findL (ls : List Pr) (key : ByteArray) : Option ByteArray := (ls.find? fun x => x.1.toList == key.toList).map (·.2)
def found (r : Option ByteArray) : Value := .tuple #[.string (r.getD ⟨#[]⟩), .bool r.isSome]

theorem find_drop_hit {ls : List Pr} {k : Nat} {x : Pr} {key : ByteArray} (hx : ls[k]? = some x) (h : (x.1.toList == key.toList) = true) : findL (ls.drop k) key = some x.2 := by
  obtain ⟨hlt, rfl⟩ := List.getElem?_eq_some_iff.1 hx
  rw [List.drop_eq_getElem_cons hlt, findL, List.find?_cons, h]
  rfl
theorem find_drop_miss {ls : List Pr} {k : Nat} {x : Pr} {key : ByteArray} (hx : ls[k]? = some x) (h : (x.1.toList == key.toList) = false) : findL (ls.drop k) key = findL (ls.drop (k + 1)) key := by
  obtain ⟨hlt, rfl⟩ := List.getElem?_eq_some_iff.1 hx
  rw [List.drop_eq_getElem_cons hlt, findL, List.find?_cons, h]
  rfl

set_option maxHeartbeats 1000000 in
set_option maxRecDepth 100000 in
theorem find_any (v : Value) (ls : List Pr) (key : ByteArray) (w : World) (hv : Row w v ls) (hl : ls.length ≤ 4611686018427387904) :
    Calls Try.prog 45 #[v, .string key] w fun e w' => e = .returned (found (findL ls key)) ∧ Below w.heap.size w w' := by
  rcases hv with ⟨rfl, a, cap, rfl, hm⟩ | ⟨hne, g, o, cap, rfl, hg, hcap, hm, hcell⟩
  · go_enter Try.func45, Try.ntmps45
    go_wp2
    go_loopw [10] (fun i wr => i = .int .i64 0 ∧ wr = w) (fun _ _ => 0)
    case atStart => exact ⟨rfl, rfl⟩
    case round =>
      obtain ⟨rfl, rfl⟩ := hrel
      go_wp2
      go_ret2
      exact ⟨rfl, Below.refl _ _⟩
  · have HC := Lib.hid hcell
    clear hcell hne
    go_enter Try.func45, Try.ntmps45
    go_wp2
    go_loopw [10] (fun i wr => ∃ k : Nat, k ≤ ls.length ∧ i = .int .i64 k ∧ findL (ls.drop k) key = findL ls key ∧ Below w.heap.size w wr) (fun i _ => ls.length - (intOf i).toNat)
    case atStart => exact ⟨0, Nat.zero_le _, rfl, rfl, Below.refl _ _⟩
    case round =>
      obtain ⟨k, hk, rfl, hf, hb⟩ := hrel
      have HF := Lib.hid hf
      clear hf
      by_cases hlt : k < ls.length
      · obtain ⟨x, hx⟩ : ∃ x, ls[k]? = some x := ⟨_, List.getElem?_eq_getElem hlt⟩
        obtain ⟨hc1, hc2⟩ := HC.out.below hg hb k x hx
        have HX := Lib.hid hx
        clear hx
        obtain ⟨x1, x2⟩ := x
        have he : Hid ((x1.toList == key.toList) = true) ∨ Hid ((x1.toList == key.toList) = false) := by cases h : (x1.toList == key.toList); exact .inr (Lib.hid rfl); exact .inl (Lib.hid rfl)
        rcases he with he | he
        · have h1 := he.out
          go_wp2
          go_ret2
          rw [← HF.out, find_drop_hit HX.out he.out]
          exact ⟨rfl, hb.alloc hb.size _⟩
        · have h1 := he.out
          go_wp2
          go_roundw
          case rel => exact ⟨k + 1, by omega, by go_num, by rw [← HF.out, find_drop_miss HX.out he.out], hb.alloc hb.size _⟩
          case measure => simp [intOf]; omega
      · go_wp2
        go_ret2
        have := HF.out
        rw [List.drop_eq_nil_of_le (by omega)] at this
        rw [← this]
        exact ⟨rfl, hb⟩
end Go.Proofs.Ytbefnophkaepmaa.Label

/- What sel.kindOf, the lets of its kinds, sel.holds and sel.Match answer of any terms and labels; of memory that was there nothing turns. -/
namespace Go.Proofs.Ytbefnophkaepmaa.Sel
open Go.RowKit Go.Proofs.Ytbefnophkaepmaa.Texts Go.Proofs.Ytbefnophkaepmaa.Word

/-- Is a text among some? -/
def among (x : ByteArray) (ts : List ByteArray) : Bool := ts.any fun y => x.toList == y.toList
theorem among_take {x y : ByteArray} {ts : List ByteArray} {k : Nat} (hy : ts[k]? = some y) (h : among x (ts.take k) = false) : among x (ts.take (k + 1)) = (x.toList == y.toList) := by
  unfold among at *
  rw [List.take_add_one, hy, List.any_append, h]
  simp
theorem among_hit {x y : ByteArray} {ts : List ByteArray} {k : Nat} (hy : ts[k]? = some y) (h : (x.toList == y.toList) = true) : among x ts = true :=
  List.any_eq_true.2 ⟨y, List.mem_of_getElem? hy, h⟩

def Indexed (x : ByteArray) (ts : List ByteArray) (w : World) (e : Ending) (w' : World) : Prop :=
  ((∃ k : Nat, e = .returned (.int .i64 k) ∧ among x ts = true) ∨ (e = .returned (.int .i64 (-1)) ∧ among x ts = false)) ∧ w' = w
set_option maxHeartbeats 1000000 in
set_option maxRecDepth 100000 in
theorem index_any (v : Value) (ts : List ByteArray) (x : ByteArray) (w : World) (hv : SRow w v ts) (hl : ts.length ≤ 4611686018427387904) :
    Calls Try.prog 69 #[v, .string x] w (Indexed x ts w) := by
  obtain ⟨a, cap, rfl, hcap, hm⟩ := hv.slice
  have HV := Lib.hid hv
  clear hv
  go_enter Try.func69, Try.ntmps69
  go_wp2
  go_loopw [8] (fun i wr => ∃ k : Nat, k ≤ ts.length ∧ i = .int .i64 k ∧ among x (ts.take k) = false ∧ wr = w) (fun i _ => ts.length - (intOf i).toNat)
  case atStart => exact ⟨0, Nat.zero_le _, rfl, rfl, rfl⟩
  case round =>
    obtain ⟨k, hk, rfl, hf, rfl⟩ := hrel
    have HF := Lib.hid hf
    clear hf
    by_cases hlt : k < ts.length
    · obtain ⟨g, o, rfl, hg, hcell⟩ := HV.out.cells hlt
      obtain ⟨y, hy⟩ : ∃ y, ts[k]? = some y := ⟨_, List.getElem?_eq_getElem hlt⟩
      have hc := hcell k y hy
      have HY := Lib.hid hy
      clear hy hcell
      have he : Hid ((x.toList == y.toList) = true) ∨ Hid ((x.toList == y.toList) = false) := by cases h : (x.toList == y.toList); exact .inr (Lib.hid rfl); exact .inl (Lib.hid rfl)
      rcases he with he | he
      · have h1 := he.out
        go_wp2
        go_ret
        exact ⟨.inl ⟨k, rfl, among_hit HY.out he.out⟩, rfl⟩
      · have h1 := he.out
        go_wp2
        go_roundw
        case rel => exact ⟨k + 1, by omega, by go_num, by rw [among_take HY.out HF.out]; exact he.out, trivial⟩
        case measure => simp [intOf]; omega
    · go_wp2
      go_ret
      have := HF.out
      rw [List.take_of_length_le (by omega)] at this
      exact ⟨.inr ⟨rfl, this⟩, rfl⟩

set_option maxHeartbeats 1000000 in
set_option maxRecDepth 100000 in
theorem contains_any (v : Value) (ts : List ByteArray) (x : ByteArray) (w : World) (hv : SRow w v ts) (hl : ts.length ≤ 4611686018427387904) :
    Calls Try.prog 68 #[v, .string x] w fun e w' => e = .returned (.bool (among x ts)) ∧ w' = w := by
  have HI := Lib.hid (index_any v ts x w hv hl)
  clear hv
  go_enter Try.func68, Try.ntmps68
  go_wp2_with fail
  refine HI.out.mono ?_
  rintro e w' ⟨⟨k, rfl, h⟩ | ⟨rfl, h⟩, rfl⟩
  · have HB := Lib.hid h
    clear h
    go_wp2
    go_ret
    exact ⟨by rw [HB.out]; rfl, rfl⟩
  · have HB := Lib.hid h
    clear h
    go_wp2
    go_ret
    exact ⟨by rw [HB.out]; rfl, rfl⟩

set_option maxHeartbeats 1000000 in
set_option maxRecDepth 100000 in
theorem lets_some (v : Value) (ts : List ByteArray) (x : ByteArray) (w : World) (hv : SRow w v ts) (hl : ts.length ≤ 4611686018427387904) :
    Calls Try.prog 67 #[v, .string x] w fun e w' => e = .returned (.bool (among x ts)) ∧ w' = w := by
  have HI := Lib.hid (contains_any v ts x w hv hl)
  clear hv
  go_enter Try.func67, Try.ntmps67
  go_wp2_with fail
  refine HI.out.mono ?_
  rintro e w' ⟨rfl, rfl⟩
  go_wp2
  go_ret
  exact ⟨rfl, rfl⟩
set_option maxHeartbeats 1000000 in
set_option maxRecDepth 100000 in
theorem lets_none (x : ByteArray) (w : World) :
    Calls Try.prog 66 #[.agg #[], .string x] w fun e w' => e = .returned (.bool true) ∧ Below w.heap.size w w' := by
  go_enter Try.func66, Try.ntmps66
  go_wp2
  go_ret
  exact ⟨rfl, (Below.refl _ _).alloc (Nat.le_refl _) _⟩

set_option maxHeartbeats 1000000 in
set_option maxRecDepth 100000 in
theorem kind_none (k : ByteArray) (n : Bool) (a : Option Addr) (cap : Nat) (w : World) :
    Calls Try.prog 46 #[.agg #[.string k, .bool n, .slice a 0 cap]] w fun e w' => e = .returned (.iface 98 (.agg #[])) ∧ Below w.heap.size w w' := by
  go_enter Try.func46, Try.ntmps46
  go_wp2
  go_ret
  exact ⟨rfl, (Below.refl _ _).alloc (Nat.le_refl _) _⟩
set_option maxHeartbeats 1000000 in
set_option maxRecDepth 100000 in
theorem kind_some (k : ByteArray) (n : Bool) (a : Option Addr) (m cap : Nat) (hm : 0 < m) (w : World) :
    Calls Try.prog 46 #[.agg #[.string k, .bool n, .slice a m cap]] w fun e w' => e = .returned (.iface 99 (.slice a m cap)) ∧ Below w.heap.size w w' := by
  have h0 : ((m : Int) == 0) = false := by simp; omega
  go_enter Try.func46, Try.ntmps46
  go_wp2
  go_ret
  exact ⟨rfl, (Below.refl _ _).alloc (Nat.le_refl _) _⟩
end Go.Proofs.Ytbefnophkaepmaa.Sel

/- What sel.holds and sel.Match answer of any terms and labels; of memory that was there nothing turns. -/
namespace Go.Proofs.Ytbefnophkaepmaa.Sel
open Go.RowKit Go.Proofs.Ytbefnophkaepmaa.Texts Go.Proofs.Ytbefnophkaepmaa.Word Go.Proofs.Ytbefnophkaepmaa.Label

theorem three_cells {w : World} {g : Nat} {a b c : Value} {T : TypeId} (h : w.heap[g]? = some (.cells #[a, b, c] T)) : w.cell? ⟨g, 0, none⟩ = some a ∧ w.cell? ⟨g, 1, none⟩ = some b ∧ w.cell? ⟨g, 2, none⟩ = some c := by
  simp [World.cell?, h]
theorem cell_new {w : World} {a b c : Value} {T : TypeId} {w' : World} (hb : Below (w.alloc (.cells #[a, b, c] T)).heap.size (w.alloc (.cells #[a, b, c] T)) w') : w.heap.size < w'.heap.size ∧ w'.cell? ⟨w.heap.size, 0, none⟩ = some a ∧ w'.cell? ⟨w.heap.size, 1, none⟩ = some b ∧ w'.cell? ⟨w.heap.size, 2, none⟩ = some c := by
  obtain ⟨h0, h1, h2⟩ := three_cells (heap_alloc_new w (.cells #[a, b, c] T))
  have hs : (w.alloc (.cells #[a, b, c] T)).heap.size = w.heap.size + 1 := Array.size_push ..
  have := hb.size
  exact ⟨by omega, (hb.cell (p := ⟨w.heap.size, 0, none⟩) (by rw [hs]; simp)).trans h0, (hb.cell (p := ⟨w.heap.size, 1, none⟩) (by rw [hs]; simp)).trans h1, (hb.cell (p := ⟨w.heap.size, 2, none⟩) (by rw [hs]; simp)).trans h2⟩
theorem method_none (f : Nat) (w : World) : (method (f + 1) 98 (.agg #[]) "demesne/sel.lets").run Try.prog w = .ok (66, .agg #[]) w := by kernel_rfl
theorem method_some (f : Nat) (v : Value) (w : World) : (method (f + 1) 99 v "demesne/sel.lets").run Try.prog w = .ok (67, v) w := by kernel_rfl
theorem grows {a b c : World} (h1 : Below a.heap.size a b) (h2 : Below b.heap.size b c) : Below a.heap.size a c := h1.trans (h2.mono h1.size)
theorem grew (w : World) (o : Obj) : Below w.heap.size w (w.alloc o) := (Below.refl _ _).alloc (Nat.le_refl _) _

set_option maxHeartbeats 1000000 in
set_option maxRecDepth 100000 in
theorem holds_no (k : ByteArray) (n : Bool) (s pv : Value) (ps : List Pr) (w : World) (hp : Row w pv ps) (hpl : ps.length ≤ 4611686018427387904) (hf : findL ps k = none) :
    Calls Try.prog 32 #[.agg #[.string k, .bool n, s], pv] w fun e w' => e = .returned (.bool n) ∧ Below w.heap.size w w' := by
  have HF := Lib.hid (fun W (hW : Row W pv ps) => find_any pv ps k W hW hpl)
  rw [hf] at HF
  change Hid (∀ W (hW : Row W pv ps), Calls _ _ _ W fun e w' => e = .returned (.tuple #[.string ⟨#[]⟩, .bool false]) ∧ _) at HF
  have HP := Lib.hid hp
  clear hp hf
  go_enter Try.func32, Try.ntmps32
  go_wp2_with fail
  refine (HF.out _ (HP.out.below (grew w _))).mono ?_
  rintro e w1 ⟨rfl, hb1⟩
  obtain ⟨hB, c0, c1, c2⟩ := cell_new hb1
  have hb := grows (grew w _) hb1
  clear hb1 HF
  have q0 := Quiet.cell (a := ⟨w.heap.size, 0, none⟩) hB c0
  have q1 := Quiet.cell (a := ⟨w.heap.size, 1, none⟩) hB c1
  have q2 := Quiet.cell (a := ⟨w.heap.size, 2, none⟩) hB c2
  clear c0 c1 c2
  go_wp2_with fail
  refine Quiet.region (by kernel_rfl) (by kernel_rfl) ?_
  repeat (go_big_quiet_step (fail))
  refine wpQuiet_nil ?_
  rintro _ ⟨pq, rfl⟩
  have hq := pq.below
  generalize pq.world = wq at hq ⊢
  go_wp2
  go_ret
  refine ⟨?_, grows hb hq⟩
  cases n <;> rfl

set_option maxHeartbeats 1000000 in
set_option maxRecDepth 100000 in
theorem holds_any (k x : ByteArray) (n : Bool) (a : Option Addr) (cap : Nat) (pv : Value) (ps : List Pr) (w : World) (hp : Row w pv ps) (hpl : ps.length ≤ 4611686018427387904) (hf : findL ps k = some x) :
    Calls Try.prog 32 #[.agg #[.string k, .bool n, .slice a 0 cap], pv] w fun e w' => e = .returned (.bool (!n)) ∧ Below w.heap.size w w' := by
  have HF := Lib.hid (fun W (hW : Row W pv ps) => find_any pv ps k W hW hpl)
  rw [hf] at HF
  change Hid (∀ W (hW : Row W pv ps), Calls _ _ _ W fun e w' => e = .returned (.tuple #[.string x, .bool true]) ∧ _) at HF
  have HP := Lib.hid hp
  clear hp hf
  have hmt := method_none
  go_enter Try.func32, Try.ntmps32
  go_wp2_with fail
  refine (HF.out _ (HP.out.below (grew w _))).mono ?_
  rintro e w1 ⟨rfl, hb1⟩
  obtain ⟨hB, c0, c1, c2⟩ := cell_new hb1
  have hb := grows (grew w _) hb1
  clear hb1 HF
  have q0 := Quiet.cell (a := ⟨w.heap.size, 0, none⟩) hB c0
  have q1 := Quiet.cell (a := ⟨w.heap.size, 1, none⟩) hB c1
  have q2 := Quiet.cell (a := ⟨w.heap.size, 2, none⟩) hB c2
  clear c0 c1 c2
  go_wp2_with fail
  refine Quiet.region (by kernel_rfl) (by kernel_rfl) ?_
  repeat (go_big_quiet_step (first | (go_at_call 46; (with_reducible exact Quiet.calls (kind_none k n a cap _))) | (go_at_call 66; (with_reducible exact Quiet.calls (lets_none x _)))))
  refine wpQuiet_nil ?_
  rintro _ ⟨pq, rfl⟩
  have hq := pq.below
  generalize pq.world = wq at hq ⊢
  go_wp2
  go_ret
  refine ⟨?_, grows hb hq⟩
  cases n <;> rfl

set_option maxHeartbeats 1000000 in
set_option maxRecDepth 100000 in
theorem holds_some (k x : ByteArray) (n : Bool) (a : Option Addr) (cap : Nat) (vs : List ByteArray) (hv0 : 0 < vs.length) (hvl : vs.length ≤ 4611686018427387904) (pv : Value) (ps : List Pr) (w : World) (hs : SRow w (.slice a vs.length cap) vs) (hp : Row w pv ps) (hpl : ps.length ≤ 4611686018427387904) (hf : findL ps k = some x) :
    Calls Try.prog 32 #[.agg #[.string k, .bool n, .slice a vs.length cap], pv] w fun e w' => e = .returned (.bool (among x vs != n)) ∧ Below w.heap.size w w' := by
  have HF := Lib.hid (fun W (hW : Row W pv ps) => find_any pv ps k W hW hpl)
  rw [hf] at HF
  change Hid (∀ W (hW : Row W pv ps), Calls _ _ _ W fun e w' => e = .returned (.tuple #[.string x, .bool true]) ∧ _) at HF
  have HP := Lib.hid hp
  have HS := Lib.hid hs
  obtain ⟨r, hr⟩ : ∃ r, among x vs = r := ⟨_, rfl⟩
  have HL : Hid (∀ W W', SRow W (.slice a vs.length cap) vs → Below W.heap.size W W' → Calls Try.prog 67 #[.slice a vs.length cap, .string x] W' fun e w' => e = .returned (.bool r) ∧ Below W'.heap.size W' w') := Lib.hid fun W W' h hb => by
    rw [← hr]
    refine (lets_some _ vs x W' (h.below hb) hvl).mono ?_
    rintro e w' ⟨rfl, rfl⟩
    exact ⟨rfl, Below.refl _ _⟩
  rw [hr]
  clear hp hf hs hr
  have hmt := method_some
  go_enter Try.func32, Try.ntmps32
  go_wp2_with fail
  refine (HF.out _ (HP.out.below (grew w _))).mono ?_
  rintro e w1 ⟨rfl, hb1⟩
  obtain ⟨hB, c0, c1, c2⟩ := cell_new hb1
  have hb := grows (grew w _) hb1
  have HS1 := Lib.hid (HS.out.below hb)
  clear hb1 HF
  have q0 := Quiet.cell (a := ⟨w.heap.size, 0, none⟩) hB c0
  have q1 := Quiet.cell (a := ⟨w.heap.size, 1, none⟩) hB c1
  have q2 := Quiet.cell (a := ⟨w.heap.size, 2, none⟩) hB c2
  clear c0 c1 c2
  go_wp2_with fail
  refine Quiet.region (by kernel_rfl) (by kernel_rfl) ?_
  repeat (go_big_quiet_step (first | (go_at_call 46; (with_reducible exact Quiet.calls (kind_some k n a vs.length cap hv0 _))) | (go_at_call 67; (with_reducible exact Quiet.calls (HL.out _ _ HS1.out (Quiet.Behind.below _))))))
  refine wpQuiet_nil ?_
  rintro _ ⟨pq, rfl⟩
  have hq := pq.below
  generalize pq.world = wq at hq ⊢
  go_wp2
  go_ret
  refine ⟨?_, grows hb hq⟩
  cases n <;> cases r <;> rfl

/-- A term as a value. -/
def TermV (w : World) (v : Value) (t : Tm) : Prop := ∃ s, v = .agg #[.string t.1, .bool t.2.1, s] ∧ SRow w s t.2.2
theorem TermV.below {w w' : World} {v : Value} {t : Tm} (h : TermV w v t) (hb : Below w.heap.size w w') : TermV w' v t := by
  obtain ⟨s, rfl, hs⟩ := h
  exact ⟨s, rfl, hs.below hb⟩
theorem among_eq (x : ByteArray) (vs : List ByteArray) : among x vs = vs.any (fun y => y.toList == x.toList) := by
  unfold among
  congr 1
  funext y
  exact Bool.beq_comm ..
theorem holds_term (v : Value) (t : Tm) (pv : Value) (ps : List Pr) (w : World) (hv : TermV w v t) (hvl : t.2.2.length ≤ 4611686018427387904) (hp : Row w pv ps) (hpl : ps.length ≤ 4611686018427387904) :
    Calls Try.prog 32 #[v, pv] w fun e w' => e = .returned (.bool (holdsT (findL ps t.1) t)) ∧ Below w.heap.size w w' := by
  obtain ⟨k, n, vs⟩ := t
  obtain ⟨s, rfl, hs⟩ := hv
  simp only at hs hvl ⊢
  cases hf : findL ps k with
  | none =>
    refine (holds_no k n s pv ps w hp hpl hf).mono ?_
    rintro e w' ⟨rfl, hb⟩
    exact ⟨by simp [holdsT], hb⟩
  | some x =>
    obtain ⟨a, cap, rfl, hc, hm⟩ := hs.slice
    cases vs with
    | nil =>
      refine (holds_any k x n a cap pv ps w hp hpl hf).mono ?_
      rintro e w' ⟨rfl, hb⟩
      exact ⟨by simp [holdsT], hb⟩
    | cons v0 vs =>
      refine (holds_some k x n a cap (v0 :: vs) (by simp) hvl pv ps w hs hp hpl hf).mono ?_
      rintro e w' ⟨rfl, hb⟩
      exact ⟨by rw [among_eq]; simp [holdsT], hb⟩
end Go.Proofs.Ytbefnophkaepmaa.Sel

/- What sel.Match answers of any selector and any labels; of memory that was there nothing turns. -/
namespace Go.Proofs.Ytbefnophkaepmaa.Sel
open Go.RowKit Go.Proofs.Ytbefnophkaepmaa.Texts Go.Proofs.Ytbefnophkaepmaa.Word Go.Proofs.Ytbefnophkaepmaa.Label

/-- How long a selector may be for the walks here. -/
def Fair (ls : List Tm) : Prop := ls.length ≤ 4611686018427387904 ∧ ∀ t ∈ ls, t.1.size ≤ 4611686018427387904 ∧ t.2.2.length ≤ 4611686018427387904 ∧ ∀ x ∈ t.2.2, x.size ≤ 4611686018427387904
theorem matchS_take {f : ByteArray → Option ByteArray} {ls : List Tm} {k : Nat} {t : Tm} (ht : ls[k]? = some t) (h : matchS f (ls.take k) = true) : matchS f (ls.take (k + 1)) = holdsT (f t.1) t := by
  unfold matchS at *
  rw [List.take_add_one, ht, List.all_append, h]
  simp
theorem matchS_no {f : ByteArray → Option ByteArray} {ls : List Tm} {k : Nat} {t : Tm} (ht : ls[k]? = some t) (h : holdsT (f t.1) t = false) : matchS f ls = false := by
  unfold matchS
  rw [List.all_eq_false]
  exact ⟨t, List.mem_of_getElem? ht, by rw [h]; simp⟩

set_option maxHeartbeats 1000000 in
set_option maxRecDepth 100000 in
theorem match_any (v : Value) (ls : List Tm) (pv : Value) (ps : List Pr) (w : World) (hv : TRow w v ls) (hl : Fair ls) (hp : Row w pv ps) (hpl : ps.length ≤ 4611686018427387904) :
    Calls Try.prog 18 #[v, pv] w fun e w' => e = .returned (.bool (matchS (findL ps) ls)) ∧ Below w.heap.size w w' := by
  obtain ⟨a, cap, rfl, hcap, hm⟩ := hv.slice
  have hl1 := hl.1
  have HL := Lib.hid hl
  have HV := Lib.hid hv
  have HP := Lib.hid hp
  clear hv hp hl
  go_enter Try.func18, Try.ntmps18
  go_wp2
  go_loopw [9] (fun i wr => ∃ k : Nat, k ≤ ls.length ∧ i = .int .i64 k ∧ matchS (findL ps) (ls.take k) = true ∧ Below w.heap.size w wr) (fun i _ => ls.length - (intOf i).toNat)
  case atStart => exact ⟨0, Nat.zero_le _, rfl, rfl, Below.refl _ _⟩
  case round =>
    obtain ⟨k, hk, rfl, hf, hb⟩ := hrel
    have HF := Lib.hid hf
    clear hf
    by_cases hlt : k < ls.length
    · have hltz : (k : Int) < (ls.length : Int) := by omega
      obtain ⟨g, o, rfl, hg, hcell⟩ := (HV.out.below hb).cells hlt
      obtain ⟨t, ht⟩ : ∃ t, ls[k]? = some t := ⟨_, List.getElem?_eq_getElem hlt⟩
      obtain ⟨c0, c1, s, c2, hs⟩ := hcell k t ht
      obtain ⟨sa, sc, rfl, _, _⟩ := hs.slice
      have HS := Lib.hid hs
      have HT := Lib.hid ht
      obtain ⟨r, hr⟩ : ∃ r, holdsT (findL ps t.1) t = r := ⟨_, rfl⟩
      have HR := Lib.hid hr
      have HC : Hid (∀ W, SRow W (.slice sa t.2.2.length sc) t.2.2 → Row W pv ps → Calls Try.prog 32 #[.agg #[.string t.1, .bool t.2.1, .slice sa t.2.2.length sc], pv] W fun e w' => e = .returned (.bool r) ∧ Below W.heap.size W w') := Lib.hid fun W h1 h2 => by
        rw [← hr]
        exact holds_term _ t pv ps W ⟨_, rfl, h1⟩ (HL.out.2 t (List.mem_of_getElem? ht)).2.1 h2 hpl
      obtain ⟨tk, tn, tv⟩ := t
      clear ht hs hr hcell
      go_wp2_with fail
      with_reducible refine (HC.out _ (HS.out.below (grew wr _)) (HP.out.below (grows hb (grew wr _)))).mono ?_
      rintro e w1 ⟨rfl, hb1⟩
      have hb' := grows hb (grows (grew wr _) hb1)
      cases r with
      | true =>
        go_wp2
        go_roundw
        case rel => exact ⟨k + 1, by omega, by go_num, by rw [matchS_take HT.out HF.out]; exact HR.out, hb'⟩
        case measure => simp [intOf]; omega
      | false =>
        go_wp2
        go_ret
        exact ⟨by rw [matchS_no HT.out HR.out]; rfl, hb'⟩
    · have hltz : ¬ ((k : Int) < (ls.length : Int)) := by omega
      go_wp2
      go_ret
      have := HF.out
      rw [List.take_of_length_le (by omega)] at this
      exact ⟨by rw [this]; rfl, hb⟩
end Go.Proofs.Ytbefnophkaepmaa.Sel

/- What the document's own Find (chapter 4) answers of any labels, and what the statements' own refL does; of memory that was there nothing turns. -/
namespace Go.Proofs.Ytbefnophkaepmaa.Label
open Go.RowKit Go.Proofs.Ytbefnophkaepmaa.Texts Go.Proofs.Ytbefnophkaepmaa.Word

theorem step_own {P : Program} (w : World) {ops : Array Oper} {o : Oper} {a : Act} {K : Act → World → Prop} {Q : Exit → Act → World → Prop} {E : Prop} (hgd : o.guard = none) (s x : Operand) (t : TypeId)
    (ho : o.op = .call { callee := .builtin .append, args := #[s, x], argTypes := #[t, t] })
    (base : Nat) (e : TypeId) (i : TypeInfo) (z : Value) (size bytes : Nat) (ht : P.underlying t = some (.slice e)) (hi : P.info? e = some i) (hz : i.zero = some z)
    (hsize : i.size = size) (hby : i.bytes = bytes) (hzs : z.cells.size = size) (hsz : 0 < size)
    (v : Value) (n : Nat) (xs : List Value) (hs : a.eval s = v) (hown : w.ownsRow base e size v n xs)
    (ad : Addr) (m c : Nat) (news : List Value) (hx : a.eval x = .slice (some ad) m c) (hl : news.length = m * size) (hnews : ∀ j u, news[j]? = some u → w.cell? (ad.add j) = some u) (h1 : ∀ u ∈ news, u.oneCell' = true)
    (h63 : n + m ≤ maxLen) (hbytes : (n + m) * bytes ≤ 140737488355328) (hbase : base ≤ w.heap.size)
    (h : ∀ v' w', w'.ownsRow base e size v' (n + m) (xs ++ news) → w.grownBy w' v.ownBlock → K (a.put o.dst v') w') :
    if Region.wanted o (yielded ops a.tmps) = true then Oper.wp P o a w K Q else E := by
  have hw : Region.wanted o (yielded ops a.tmps) = true := by simp [Region.wanted, hgd]
  rw [if_pos hw]
  exact wp_append_own w s x t ho base e i z size bytes ht hi hz hsize hby hzs hsz v n xs hs hown ad m c news hx hl hnews h1 h63 hbytes hbase fun v' w' h2 h3 _ => h v' w' h2 h3

theorem Row.slice {w : World} {v : Value} {ls : List Pr} (h : Row w v ls) : ∃ a cap, v = .slice a ls.length cap := by
  rcases h with ⟨rfl, a, cap, rfl, _⟩ | ⟨_, g, o, cap, rfl, _⟩
  · exact ⟨_, _, rfl⟩
  · exact ⟨_, _, rfl⟩

theorem Row.cells {w : World} {a : Option Addr} {cap k n : Nat} {ls : List Pr} (h : Row w (.slice a n cap) ls) (hk : k < ls.length) : ∃ g o, a = some ⟨g, o, none⟩ ∧ g < w.heap.size ∧ Cells w g o ls := by
  rcases h with ⟨rfl, _⟩ | ⟨_, g, o, cap', hsl, hg, _, _, hcell⟩
  · simp at hk
  · injection hsl with h1 _ _
    exact ⟨g, o, h1, hg, hcell⟩

set_option maxHeartbeats 2000000 in
set_option maxRecDepth 100000 in
theorem refFind_rows (v : Value) (ls : List Pr) (key : ByteArray) (w : World) (hv : Row w v ls) (hl : ls.length ≤ 4611686018427387904) :
    Calls Try.prog 43 #[v, .string key] w fun e w' => e = .returned (found (findL ls key)) ∧ Below w.heap.size w w' := by
  obtain ⟨ad, cap, rfl⟩ := hv.slice
  have HV := Lib.hid hv
  clear hv
  go_enter Try.func43, Try.ntmps43
  go_wp2
  go_loopw [6] (fun i wr => ∃ k : Nat, k ≤ ls.length ∧ i = .int .i64 k ∧ findL (ls.drop k) key = findL ls key ∧ Below w.heap.size w wr) (fun i _ => ls.length - (intOf i).toNat)
  case atStart => exact ⟨0, Nat.zero_le _, rfl, rfl, Below.refl _ _⟩
  case round =>
    obtain ⟨k, hk, rfl, hf, hb⟩ := hrel
    have HF := Lib.hid hf
    clear hf
    by_cases hlt : k < ls.length
    · have hltz : (k : Int) < (ls.length : Int) := by omega
      have hk0 : (0 : Int) ≤ (k : Int) := by omega
      obtain ⟨g, o, rfl, hg, hc⟩ := HV.out.cells hlt
      obtain ⟨x, hx⟩ : ∃ x, ls[k]? = some x := ⟨_, List.getElem?_eq_getElem hlt⟩
      obtain ⟨c1, c2⟩ := hc.below hg hb k x hx
      have HX := Lib.hid hx
      clear hx hc
      obtain ⟨x1, x2⟩ := x
      have he : Hid ((x1.toList == key.toList) = true) ∨ Hid ((x1.toList == key.toList) = false) := by cases h : (x1.toList == key.toList); exact .inr (Lib.hid rfl); exact .inl (Lib.hid rfl)
      rcases he with he | he
      · have h1 := he.out
        go_wp2
        go_ret2
        rw [← HF.out, find_drop_hit HX.out he.out]
        exact ⟨rfl, hb⟩
      · have h1 := he.out
        go_wp2
        go_roundw
        case rel => exact ⟨k + 1, by omega, by go_num, by rw [← HF.out, find_drop_miss HX.out he.out], hb⟩
        case measure => simp [intOf]; omega
    · go_wp2
      go_ret2
      have := HF.out
      rw [List.drop_eq_nil_of_le (by omega)] at this
      rw [← this]
      exact ⟨rfl, hb⟩

theorem fm_snoc (ls : List Pr) (x : Pr) : (ls ++ [x]).flatMap enc = ls.flatMap enc ++ [.string x.1, .string x.2] := by simp [enc]

theorem fm_get : ∀ (ls : List Pr) (j : Nat) (x : Pr), ls[j]? = some x → (ls.flatMap enc)[j * 2]? = some (.string x.1) ∧ (ls.flatMap enc)[j * 2 + 1]? = some (.string x.2)
  | [], j, x, h => by simp at h
  | a :: r, 0, x, h => by simp at h; subst h; exact ⟨rfl, rfl⟩
  | a :: r, j + 1, x, h => by
    obtain ⟨h1, h2⟩ := fm_get r j x (by simpa using h)
    have e : (a :: r).flatMap enc = .string a.1 :: .string a.2 :: r.flatMap enc := rfl
    rw [e, show (j + 1) * 2 = j * 2 + 1 + 1 by omega]
    exact ⟨h1, h2⟩

theorem infoR : (Try.prog.info? 85).map (fun i => (i.zero, i.size, i.bytes)) = some (some (.agg #[.string ByteArray.empty, .string ByteArray.empty]), 2, 32) := by kernel_rfl

theorem own_rowT {B : Nat} {T : TypeId} {w : World} {v : Value} {ls : List Pr} (h : w.ownsRow B T 2 v ls.length (ls.flatMap enc)) : Row w v ls := by
  have hc := fun g hg => h.cells (g := g) hg
  rcases h.2 with ⟨rfl, h0⟩ | ⟨g, cap, cur, rfl, hB, hg, hcap, hm, hsz, htake⟩
  · exact .inl ⟨List.eq_nil_of_length_eq_zero h0, _, _, rfl, Nat.zero_le _⟩
  · by_cases hl : ls = []
    · subst hl; exact .inl ⟨rfl, _, _, rfl, hm⟩
    · refine .inr ⟨hl, g, 0, cap, rfl, (Array.getElem?_eq_some_iff.1 hg).1, hcap, hm, fun j x hj => ?_⟩
      obtain ⟨h0, h1⟩ := fm_get ls j x hj
      have e0 := hc g rfl _ _ h0
      have e1 := hc g rfl _ _ h1
      rw [Addr.add_lit] at e0 e1
      exact ⟨e0, e1⟩

theorem new_twoT (T : TypeId) (w : World) (x y : Value) : ∀ j u, [x, y][j]? = some u → (w.alloc (.cells #[x, y] T)).cell? ((⟨w.heap.size, 0, none⟩ : Addr).add j) = some u := by
  intro j u hj
  have h : (w.alloc (.cells #[x, y] T)).heap[w.heap.size]? = some (.cells #[x, y] T) := heap_alloc_new _ _
  rw [Addr.add_lit]
  match j with
  | 0 => simp at hj; subst hj; simp only [World.cell?, h]; rfl
  | 1 => simp at hj; subst hj; simp only [World.cell?, h]; rfl
  | (n + 2) => simp at hj

set_option maxHeartbeats 4000000 in
set_option maxRecDepth 100000 in
theorem refL_rows (v : Value) (ls : List Pr) (w : World) (hv : Row w v ls) (hl : ls.length ≤ 4398046511104) :
    Calls Try.prog 29 #[v] w fun e w' => (∃ u, e = .returned u ∧ Row w' u ls) ∧ Below w.heap.size w w' := by
  obtain ⟨i0, hi, hz0, hz1, hz2⟩ := info_parts infoR
  obtain ⟨ad, cap, rfl⟩ := hv.slice
  have HV := Lib.hid hv
  clear hv
  go_enter Try.func29, Try.ntmps29
  go_wp2
  go_loopw [3, 4] (fun t i wr => ∃ k : Nat, k ≤ ls.length ∧ i = .int .i64 k ∧ wr.ownsRow w.heap.size 85 2 t (ls.take k).length ((ls.take k).flatMap enc) ∧ Below w.heap.size w wr) (fun _ i _ => ls.length - (intOf i).toNat)
  case atStart => exact ⟨0, Nat.zero_le _, rfl, World.ownsRow_nil _ _ _ _, Below.refl _ _⟩
  case round =>
    obtain ⟨k, hk, rfl, hown, hb⟩ := hrel
    have HO := Lib.hid hown
    clear hown
    by_cases hlt : k < ls.length
    · have hltz : (k : Int) < (ls.length : Int) := by omega
      have hk0 : (0 : Int) ≤ (k : Int) := by omega
      obtain ⟨g, o, rfl, hg, hc⟩ := HV.out.cells hlt
      obtain ⟨x, hx⟩ : ∃ x, ls[k]? = some x := ⟨_, List.getElem?_eq_getElem hlt⟩
      have HN1 : Hid (ls.take (k + 1) = ls.take k ++ [x]) := Lib.hid (by rw [List.take_add_one, hx]; rfl)
      have HK : Hid (∀ x', Below w.heap.size w x' → x'.cell? ⟨g, o + k * 2, none⟩ = some (.string x.1) ∧ x'.cell? ⟨g, o + k * 2 + 1, none⟩ = some (.string x.2)) := Lib.hid fun x' h => hc.below hg h k x hx
      have hlk : (ls.take k).length = k := by rw [List.length_take]; omega
      have HLz : Hid ((ls.take k).length + 1 ≤ maxLen ∧ ((ls.take k).length + 1) * 32 ≤ 140737488355328 ∧ w.heap.size ≤ wr.heap.size + 1) := Lib.hid (by have := hb.size; unfold maxLen; omega)
      have HO2 : Hid (∀ x, (wr.drew.alloc x).ownsRow w.heap.size 85 2 u3 (ls.take k).length ((ls.take k).flatMap enc)) := Lib.hid fun x => World.ownsRow.alloc (w := wr.drew) HO.out x
      have hs0 : Below wr.heap.size wr wr.drew := (Below.refl _ _).drew
      have hb2 : Below w.heap.size w wr.drew := hb.drew
      clear hx hc hlk
      obtain ⟨x1, x2⟩ := x
      simp only at HK
      have hb3 : Below w.heap.size w (World.alloc wr.drew (.cells #[.string x1, .string x2] 85)) := hb2.alloc hb2.size _
      go_wp2_with fail
      go_region_held3 (fun x => x.cell? ⟨g, o + k * 2, none⟩ = some (.string x1) ∧ x.cell? ⟨g, o + k * 2 + 1, none⟩ = some (.string x2))
        (first | exact HK.out _ hb2 | exact HK.out _ hb3 | exact HK.out _ b5)
        (first | (refine step_own _ rfl _ _ 67 rfl w.heap.size 85 i0 (.agg #[.string ByteArray.empty, .string ByteArray.empty]) 2 32 Try.underlying67 hi hz0 hz1 hz2 rfl (by decide) u3 _ _ rfl (HO2.out _) ⟨wr.heap.size, 0, none⟩ 1 1 [.string x1, .string x2] rfl rfl (new_twoT _ wr.drew _ _) (fun u hu => by simp at hu; rcases hu with rfl | rfl <;> rfl) HLz.out.1 HLz.out.2.1 (by show _ ≤ (World.alloc wr _).heap.size; rw [World.size_alloc]; exact HLz.out.2.2) ?_; intro v5 w5 hown5 hgr5; have b5 : Below w.heap.size w w5 := hb3.grown hgr5 hb3.size (fun k hk => (HO.out.lt k hk).1)))
      have hown4 : w5.ownsRow w.heap.size 85 2 v5 (ls.take (k + 1)).length ((ls.take (k + 1)).flatMap enc) := by rw [HN1.out, fm_snoc]; simpa using hown5
      clear hown5 hgr5
      go_wp2
      go_roundw
      case rel => exact ⟨k + 1, by omega, by go_num, hown4, b5⟩
      case measure => simp [intOf]; omega
    · obtain rfl : k = ls.length := by omega
      have HO' := HO.out
      rw [List.take_length] at HO'
      clear HO
      have HO := Lib.hid HO'
      clear HO'
      go_wp2
      go_ret
      exact ⟨⟨_, rfl, own_rowT HO.out⟩, hb⟩

end Go.Proofs.Ytbefnophkaepmaa.Label

/- Blocks of memory by their cells: what they hold behind stores, and a world in which one block alone may have turned; of no program. -/
namespace Go.Proofs.Ytbefnophkaepmaa.Boxes
open Go.RowKit

theorem cell_at {w : World} {b i : Nat} {cs : Array Value} {t : TypeId} {v : Value} (h : w.heap[b]? = some (.cells cs t)) (hi : cs[i]? = some v) : w.cell? ⟨b, i, none⟩ = some v := by
  simp [World.cell?, h, hi]
theorem frozen_at {w : World} {b i : Nat} {cs : Array Value} {t : TypeId} (h : w.heap[b]? = some (.cells cs t)) : w.frozen? ⟨b, i, none⟩ = false := by
  simp [World.frozen?, h]
theorem lt_of {w : World} {b : Nat} {o : Obj} (h : w.heap[b]? = some o) : b < w.heap.size := (Array.getElem?_eq_some_iff.1 h).1
theorem keep {w w' : World} {b : Nat} {o : Obj} (h : w.heap[b]? = some o) (hb : Below w.heap.size w w') : w'.heap[b]? = some o := (hb.block b (lt_of h)).trans h
theorem fresh (w : World) (o : Obj) : (w.alloc o).heap[w.heap.size]? = some o := by
  show (w.heap.push o)[w.heap.size]? = _
  simp
theorem size_alloc (w : World) (o : Obj) : (w.alloc o).heap.size = w.heap.size + 1 := Array.size_push ..
theorem fresh1 (w : World) (o p : Obj) : ((w.alloc o).alloc p).heap[w.heap.size + 1]? = some p := by
  have := fresh (w.alloc o) p
  rwa [size_alloc] at this
theorem fresh2 (w : World) (o p q : Obj) : (((w.alloc o).alloc p).alloc q).heap[w.heap.size + 2]? = some q := by
  have := fresh1 (w.alloc o) p q
  rwa [size_alloc] at this
theorem fresh3 (w : World) (o p q r : Obj) : ((((w.alloc o).alloc p).alloc q).alloc r).heap[w.heap.size + 3]? = some r := by
  have := fresh2 (w.alloc o) p q r
  rwa [size_alloc] at this
theorem old (w : World) (o : Obj) : Below w.heap.size w (w.alloc o) := (Below.refl _ _).alloc (Nat.le_refl _) _

/-- Three values stored into one block. -/
def set3 (T : Nat) (a b c : Value) (w : World) : World := ((w.setCell ⟨T, 0, none⟩ a).setCell ⟨T, 1, none⟩ b).setCell ⟨T, 2, none⟩ c
theorem set3_box {w : World} {T : Nat} {x y z : Value} {t : TypeId} (h : w.heap[T]? = some (.cells #[x, y, z] t)) (a b c : Value) : (set3 T a b c w).heap[T]? = some (.cells #[a, b, c] t) := by
  unfold set3
  have h1 := heap_setCell_same w T 0 _ _ a h
  have h2 := heap_setCell_same _ T 1 _ _ b h1
  have h3 := heap_setCell_same _ T 2 _ _ c h2
  rw [h3]
  rfl
theorem set3_below {H T : Nat} {a b c : Value} {w0 w : World} (h : Below H w0 w) (hT : H ≤ T) : Below H w0 (set3 T a b c w) := ((h.setCell hT _).setCell hT _).setCell hT _
theorem cells3 {w : World} {T : Nat} {x y z : Value} {t : TypeId} (h : w.heap[T]? = some (.cells #[x, y, z] t)) :
    w.cell? ⟨T, 0, none⟩ = some x ∧ w.cell? ⟨T, 1, none⟩ = some y ∧ w.cell? ⟨T, 2, none⟩ = some z ∧ w.frozen? ⟨T, 0, none⟩ = false ∧ w.frozen? ⟨T, 1, none⟩ = false ∧ w.frozen? ⟨T, 2, none⟩ = false :=
  ⟨cell_at h rfl, cell_at h rfl, cell_at h rfl, frozen_at h, frozen_at h, frozen_at h⟩

/-- All that was there is as it was, but for one block. -/
structure But (R : Nat) (w w' : World) : Prop where
  os : w'.os = w.os
  tape : w'.tape = w.tape
  output : w'.output = w.output
  size : w.heap.size ≤ w'.heap.size
  block : ∀ k, k < w.heap.size → k ≠ R → w'.heap[k]? = w.heap[k]?
theorem But.of_below {R : Nat} {w w' : World} (h : Below w.heap.size w w') : But R w w' := ⟨h.os, h.tape, h.output, h.size, fun k hk _ => h.block k hk⟩
theorem But.refl (R : Nat) (w : World) : But R w w := But.of_below (Below.refl _ _)
theorem But.trans {R : Nat} {a b c : World} (h : But R a b) (k : But R b c) : But R a c :=
  ⟨k.os.trans h.os, k.tape.trans h.tape, k.output.trans h.output, Nat.le_trans h.size k.size, fun i hi hn => (k.block i (Nat.lt_of_lt_of_le hi h.size) hn).trans (h.block i hi hn)⟩
theorem But.set {R : Nat} {w w' : World} (h : But R w w') (j : Nat) (v : Value) : But R w (w'.setCell ⟨R, j, none⟩ v) :=
  ⟨h.os, h.tape, h.output, by simpa using h.size, fun k hk hn => (heap_setCell_other _ _ _ _ (by simpa using hn)).trans (h.block k hk hn)⟩
theorem But.below {R B : Nat} {w w' : World} (h : But R w w') (hR : B ≤ R) (hB : B ≤ w.heap.size) : Below B w w' :=
  ⟨h.os, h.tape, h.output, h.size, fun k hk => h.block k (by omega) (by omega)⟩
theorem But.keep {R b : Nat} {w w' : World} {o : Obj} (h : But R w w') (hk : w.heap[b]? = some o) (hn : b ≠ R) : w'.heap[b]? = some o := (h.block b (lt_of hk) hn).trans hk
theorem But.cell {R : Nat} {w w' : World} {a : Addr} (h : But R w w') (hl : a.block < w.heap.size) (hn : a.block ≠ R) : w'.cell? a = w.cell? a := World.cell?_of_block (w := w) (h.block a.block hl hn)
theorem But.own {R B n : Nat} {w w' : World} {e : TypeId} {sz : Nat} {v : Value} {xs : List Value} (h : w.ownsRow B e sz v n xs) (hb : But R w w') (hR : R < B) : w'.ownsRow B e sz v n xs := by
  refine ⟨h.1, ?_⟩
  have h' := h
  rcases h.2 with h0 | ⟨g, cap, cur, hv, h1, h2, h3⟩
  · exact .inl h0
  · refine .inr ⟨g, cap, cur, hv, h1, ?_, h3⟩
    rw [hb.block g (h'.lt g (by rw [hv]; rfl)).2 (by omega)]
    exact h2
theorem But.more {R : Nat} {w a b : World} (h : But R w a) (hb : Below w.heap.size a b) : But R w b :=
  ⟨hb.os.trans h.os, hb.tape.trans h.tape, hb.output.trans h.output, Nat.le_trans h.size hb.size, fun k hk hn => (hb.block k hk).trans (h.block k hk hn)⟩
/-- A block behind a new one and an append onto another row. -/
theorem after {w w' : World} {o : Obj} {row : Option Nat} {b : Nat} {ob : Obj} (hk : w.heap[b]? = some ob) (hg : (w.alloc o).grownBy w' row) (hr : row ≠ some b) : w'.heap[b]? = some ob :=
  (hg.block b (lt_of (keep hk (old w o))) (fun e => hr e.symm)).trans (keep hk (old w o))
end Go.Proofs.Ytbefnophkaepmaa.Boxes

/- What the document's own Find and Match (chapters 4 and 5) answer, and what the statements' own refL and refS do, where no more of them is asked; of memory that was there nothing turns. -/
namespace Go.Proofs.Ytbefnophkaepmaa.Sel
open Go.RowKit Go.Proofs.Ytbefnophkaepmaa.Texts Go.Proofs.Ytbefnophkaepmaa.Word Go.Proofs.Ytbefnophkaepmaa.Forms Go.Proofs.Ytbefnophkaepmaa.Boxes Go.Proofs.Ytbefnophkaepmaa.Label

theorem holds_nil (t : Tm) : holdsT none t = t.2.1 := by
  unfold holdsT
  cases t.2.1 <;> rfl

def tcells (x : Tm × Value) : List Value := [.string x.1.1, .bool x.1.2.1, x.2]

def tvals (xs : List (Tm × Value)) : List Value := xs.flatMap tcells

theorem tvals_snoc (xs : List (Tm × Value)) (x : Tm × Value) : tvals (xs ++ [x]) = tvals xs ++ tcells x := by simp [tvals]

theorem tvals_at : ∀ (xs : List (Tm × Value)) (j : Nat) (x : Tm × Value), xs[j]? = some x → (tvals xs)[j * 3]? = some (.string x.1.1) ∧ (tvals xs)[j * 3 + 1]? = some (.bool x.1.2.1) ∧ (tvals xs)[j * 3 + 2]? = some x.2
  | [], j, x, h => by simp at h
  | a :: r, 0, x, h => by simp at h; subst h; exact ⟨rfl, rfl, rfl⟩
  | a :: r, j + 1, x, h => by
    obtain ⟨h1, h2, h3⟩ := tvals_at r j x (by simpa using h)
    have e : tvals (a :: r) = .string a.1.1 :: .bool a.1.2.1 :: a.2 :: tvals r := rfl
    rw [e, show (j + 1) * 3 = j * 3 + 1 + 1 + 1 by omega]
    exact ⟨h1, h2, h3⟩

theorem own_trow {B : Nat} {T : TypeId} {w : World} {v : Value} {xs : List (Tm × Value)} (h : w.ownsRow B T 3 v xs.length (tvals xs)) (hs : ∀ x ∈ xs, SRow w x.2 x.1.2.2) : TRow w v (xs.map (·.1)) := by
  have hc := fun g hg => h.cells (g := g) hg
  rcases h.2 with ⟨rfl, h0⟩ | ⟨g, cap, cur, rfl, hB, hg, hcap, hm, hsz, htake⟩
  · rw [List.eq_nil_of_length_eq_zero h0]; exact TRow.nil w
  · by_cases hl : xs = []
    · subst hl; exact .inl ⟨rfl, _, _, rfl, hm⟩
    · refine .inr ⟨by simp [hl], g, 0, cap, by rw [List.length_map], (Array.getElem?_eq_some_iff.1 hg).1, by rw [List.length_map]; exact hcap, hm, fun j t hj => ?_⟩
      rw [List.getElem?_map] at hj
      cases hx : xs[j]? with
      | none => rw [hx] at hj; simp at hj
      | some x =>
        rw [hx] at hj
        simp only [Option.map_some, Option.some.injEq] at hj
        subst hj
        obtain ⟨h1, h2, h3⟩ := tvals_at xs j x hx
        have e1 := hc g rfl _ _ h1
        have e2 := hc g rfl _ _ h2
        have e3 := hc g rfl _ _ h3
        rw [Addr.add_lit] at e1 e2 e3
        exact ⟨e1, by rw [Nat.add_assoc]; exact e2, _, by rw [Nat.add_assoc]; exact e3, hs x (List.mem_of_getElem? hx)⟩

theorem new3 (w : World) (a b c : Value) (T : TypeId) : ∀ j u, [a, b, c][j]? = some u → (w.alloc (.cells #[a, b, c] T)).cell? ((⟨w.heap.size, 0, none⟩ : Addr).add j) = some u := fun j u hj => by
  obtain ⟨h1, h2, h3, _⟩ := cells3 (fresh w (.cells #[a, b, c] T))
  rw [Addr.add_lit]
  match j with
  | 0 => simp at hj; subst hj; exact h1
  | 1 => simp at hj; subst hj; exact h2
  | 2 => simp at hj; subst hj; exact h3
  | (n + 3) => simp at hj

theorem one3 (k : ByteArray) (n : Bool) (a : Option Addr) (m c : Nat) : ∀ u ∈ [Value.string k, .bool n, .slice a m c], u.oneCell' = true := fun u hu => by
  simp at hu
  rcases hu with rfl | rfl | rfl <;> rfl

theorem infoT5 : (Try.prog.info? 73).map (fun i => (i.zero, i.size, i.bytes)) = some (some (.agg #[.string ByteArray.empty, .bool false, .slice none 0 0]), 3, 48) := by kernel_rfl

set_option maxHeartbeats 4000000 in
set_option maxRecDepth 100000 in
theorem refS_any (v : Value) (ls : List Tm) (w : World) (hv : TRow w v ls) (hl : ls.length ≤ 2932031007401) :
    Calls Try.prog 13 #[v] w fun e w' => (∃ u, e = .returned u ∧ TRow w' u ls) ∧ Below w.heap.size w w' := by
  obtain ⟨i0, hi, hz0, hz1, hz2⟩ := info_parts infoT5
  obtain ⟨a, cap, rfl, hcap, hm⟩ := hv.slice
  have HV := Lib.hid hv
  clear hv
  go_enter Try.func13, Try.ntmps13
  go_wp2_with fail
  go_loopw [3, 4] (fun t i wr => ∃ (k : Nat) (xs : List (Tm × Value)), k ≤ ls.length ∧ i = .int .i64 k ∧ xs.length = k ∧ xs.map (·.1) = ls.take k ∧ wr.ownsRow w.heap.size 73 3 t xs.length (tvals xs) ∧ (∀ x ∈ xs, SRow w x.2 x.1.2.2) ∧ Below w.heap.size w wr) (fun _ i _ => ls.length - (intOf i).toNat)
  case atStart => exact ⟨0, [], Nat.zero_le _, rfl, rfl, rfl, World.ownsRow_nil _ _ _ _, fun x hx => by simp at hx, Below.refl _ _⟩
  case round =>
    obtain ⟨k, xs, hk, rfl, hxl, hxm, hown, hin, hb⟩ := hrel
    have HXL := Lib.hid hxl
    have HXM := Lib.hid hxm
    have HO := Lib.hid hown
    have HIn := Lib.hid hin
    clear hxl hxm hown hin
    by_cases hlt : k < ls.length
    · have hltz : (k : Int) < (ls.length : Int) := by omega
      have hk0 : (0 : Int) ≤ (k : Int) := by omega
      obtain ⟨g, o, rfl, hg, hcell⟩ := HV.out.cells hlt
      obtain ⟨t, ht⟩ : ∃ t, ls[k]? = some t := ⟨_, List.getElem?_eq_getElem hlt⟩
      obtain ⟨c0, c1, s, c2, hs⟩ := hcell k t ht
      obtain ⟨sa, sc, rfl, _, _⟩ := hs.slice
      have HS := Lib.hid hs
      have HT := Lib.hid ht
      obtain ⟨tk, tn, tv⟩ := t
      have HK : Hid (∀ W, Below w.heap.size w W → W.cell? ⟨g, o + k * 3, none⟩ = some (.string tk) ∧ W.cell? ⟨g, o + k * 3 + 1, none⟩ = some (.bool tn) ∧ W.cell? ⟨g, o + k * 3 + 2, none⟩ = some (.slice sa tv.length sc)) := Lib.hid fun W h => ⟨(h.cell (p := ⟨g, o + k * 3, none⟩) hg).trans c0, (h.cell (p := ⟨g, o + k * 3 + 1, none⟩) hg).trans c1, (h.cell (p := ⟨g, o + k * 3 + 2, none⟩) hg).trans c2⟩
      have HLz : Hid (xs.length + 1 ≤ maxLen ∧ (xs.length + 1) * 48 ≤ 140737488355328 ∧ w.heap.size ≤ wr.heap.size + 1) := Lib.hid (by have := HXL.out; have := hb.size; unfold maxLen; omega)
      have HO2 : Hid (∀ x, (wr.drew.alloc x).ownsRow w.heap.size 73 3 u3 xs.length (tvals xs)) := Lib.hid fun x => World.ownsRow.alloc (w := wr.drew) HO.out x
      have hb2 : Below w.heap.size w wr.drew := hb.drew
      have hb3 : Below w.heap.size w (World.alloc wr.drew (.cells #[.string tk, .bool tn, .slice sa tv.length sc] 73)) := hb2.alloc hb2.size _
      clear ht hs hcell c0 c1 c2
      go_wp2_with fail
      go_region_held3 (fun x => x.cell? ⟨g, o + k * 3, none⟩ = some (.string tk) ∧ x.cell? ⟨g, o + k * 3 + 1, none⟩ = some (.bool tn) ∧ x.cell? ⟨g, o + k * 3 + 2, none⟩ = some (.slice sa tv.length sc))
        (first | exact HK.out _ hb2 | exact HK.out _ hb3 | exact HK.out _ b5)
        (first | (refine step_own _ rfl _ _ 34 rfl w.heap.size 73 i0 (.agg #[.string ByteArray.empty, .bool false, .slice none 0 0]) 3 48 Try.underlying34 hi hz0 hz1 hz2 rfl (by decide) u3 _ _ rfl (HO2.out _) ⟨wr.heap.size, 0, none⟩ 1 1 [.string tk, .bool tn, .slice sa tv.length sc] rfl rfl (new3 wr.drew _ _ _ _) (one3 _ _ _ _ _) HLz.out.1 HLz.out.2.1 (by show _ ≤ (World.alloc wr _).heap.size; rw [size_alloc]; exact HLz.out.2.2) ?_; intro v5 w5 hown5 hgr5; have b5 : Below w.heap.size w w5 := hb3.grown hgr5 hb3.size (fun k hk => (HO.out.lt k hk).1)))
      have hown4 : w5.ownsRow w.heap.size 73 3 v5 (xs ++ [((tk, tn, tv), Value.slice sa tv.length sc)]).length (tvals (xs ++ [((tk, tn, tv), Value.slice sa tv.length sc)])) := by rw [tvals_snoc, List.length_append]; exact hown5
      clear hown5 hgr5
      go_wp2
      go_roundw
      case rel =>
        refine ⟨k + 1, xs ++ [((tk, tn, tv), .slice sa tv.length sc)], by omega, by go_num, by rw [List.length_append, HXL.out]; rfl, ?_, hown4, ?_, b5⟩
        · rw [List.map_append, HXM.out, List.take_add_one, HT.out]; rfl
        · intro x hx
          rcases List.mem_append.1 hx with hx | hx
          · exact HIn.out x hx
          · rw [List.mem_singleton.1 hx]; exact HS.out
      case measure => simp [intOf]; omega
    · obtain rfl : k = ls.length := by omega
      have HR : Hid (TRow wr u3 ls) := Lib.hid (by
        have := own_trow HO.out (fun x hx => (HIn.out x hx).below hb)
        rw [HXM.out, List.take_length] at this
        exact this)
      go_wp2
      go_ret
      exact ⟨⟨_, rfl, HR.out⟩, hb⟩

/-- Is a text among some? (The document's way round.) -/
def hasV (x : ByteArray) (ts : List ByteArray) : Bool := ts.any fun y => y.toList == x.toList

theorem hasV_take {x y : ByteArray} {ts : List ByteArray} {k : Nat} (hy : ts[k]? = some y) (h : hasV x (ts.take k) = false) : hasV x (ts.take (k + 1)) = (y.toList == x.toList) := by
  unfold hasV at *
  rw [List.take_add_one, hy, List.any_append, h]
  simp

set_option maxHeartbeats 1000000 in
set_option maxRecDepth 100000 in
theorem refHas_any (v : Value) (ts : List ByteArray) (x : ByteArray) (w : World) (hv : SRow w v ts) (hl : ts.length ≤ 4611686018427387904) :
    Calls Try.prog 44 #[v, .string x] w fun e w' => e = .returned (.bool (hasV x ts)) ∧ Below w.heap.size w w' := by
  obtain ⟨a, cap, rfl, hcap, hm⟩ := hv.slice
  have HV := Lib.hid hv
  clear hv
  go_enter Try.func44, Try.ntmps44
  go_wp2_with fail
  go_loopw [5] (fun i wr => ∃ k : Nat, k ≤ ts.length ∧ i = .int .i64 k ∧ hasV x (ts.take k) = false ∧ Below w.heap.size w wr) (fun i _ => ts.length - (intOf i).toNat)
  case atStart => exact ⟨0, Nat.zero_le _, rfl, rfl, Below.refl _ _⟩
  case round =>
    obtain ⟨k, hk, rfl, hf, hb⟩ := hrel
    have HF := Lib.hid hf
    clear hf
    by_cases hlt : k < ts.length
    · have hltz : (k : Int) < (ts.length : Int) := by omega
      obtain ⟨g, o, rfl, hg, hcell⟩ := (HV.out.below hb).cells hlt
      obtain ⟨y, hy⟩ : ∃ y, ts[k]? = some y := ⟨_, List.getElem?_eq_getElem hlt⟩
      have hc := hcell k y hy
      have HY := Lib.hid hy
      clear hy hcell
      obtain ⟨r, hr⟩ : ∃ r, (y.toList == x.toList) = r := ⟨_, rfl⟩
      have HR := Lib.hid hr
      cases r with
      | true =>
        go_wp2
        go_ret
        exact ⟨by rw [show hasV x ts = true from List.any_eq_true.2 ⟨y, List.mem_of_getElem? HY.out, HR.out⟩]; rfl, hb⟩
      | false =>
        go_wp2
        go_roundw
        case rel => exact ⟨k + 1, by omega, by go_num, by rw [hasV_take HY.out HF.out]; exact HR.out, hb⟩
        case measure => simp [intOf]; omega
    · have hltz : ¬ ((k : Int) < (ts.length : Int)) := by omega
      go_wp2
      go_ret
      have := HF.out
      rw [List.take_of_length_le (by omega)] at this
      exact ⟨by rw [this]; rfl, hb⟩

theorem holds_hasV (x : ByteArray) (k : ByteArray) (n : Bool) (t : ByteArray) (ts : List ByteArray) : holdsT (some x) (k, n, t :: ts) = (hasV x (t :: ts) != n) := by
  unfold holdsT hasV
  simp

set_option maxHeartbeats 4000000 in
set_option maxRecDepth 100000 in
theorem refMatch_any (v : Value) (ls : List Tm) (pv : Value) (ps : List Pr) (w : World) (hv : TRow w v ls) (hl : Sel.Fair ls) (hp : Row w pv ps) (hpl : ps.length ≤ 4611686018427387904) :
    Calls Try.prog 30 #[v, pv] w fun e w' => e = .returned (.bool (matchS (findL ps) ls)) ∧ Below w.heap.size w w' := by
  obtain ⟨a, cap, rfl, hcap, hm⟩ := hv.slice
  have hl1 := hl.1
  have HL := Lib.hid hl
  have HV := Lib.hid hv
  have HP := Lib.hid hp
  clear hv hp hl
  go_enter Try.func30, Try.ntmps30
  go_wp2_with fail
  go_loopw [5] (fun i wr => ∃ k : Nat, k ≤ ls.length ∧ i = .int .i64 k ∧ matchS (findL ps) (ls.take k) = true ∧ Below w.heap.size w wr) (fun i _ => ls.length - (intOf i).toNat)
  case atStart => exact ⟨0, Nat.zero_le _, rfl, rfl, Below.refl _ _⟩
  case round =>
    obtain ⟨k, hk, rfl, hf, hb⟩ := hrel
    have HF := Lib.hid hf
    clear hf
    by_cases hlt : k < ls.length
    · have hltz : (k : Int) < (ls.length : Int) := by omega
      obtain ⟨g, o, rfl, hg, hcell⟩ := (HV.out.below hb).cells hlt
      obtain ⟨t, ht⟩ : ∃ t, ls[k]? = some t := ⟨_, List.getElem?_eq_getElem hlt⟩
      obtain ⟨c0, c1, s, c2, hs⟩ := hcell k t ht
      obtain ⟨sa, sc, rfl, _, _⟩ := hs.slice
      have HS := Lib.hid hs
      have HT := Lib.hid ht
      have hfr := HL.out.2 t (List.mem_of_getElem? ht)
      obtain ⟨r, hr⟩ : ∃ r, r = findL ps t.1 := ⟨_, rfl⟩
      have HFi : Hid (Calls Try.prog 43 #[pv, .string t.1] wr fun e w' => e = .returned (found r) ∧ Below wr.heap.size wr w') := Lib.hid (by rw [hr]; exact refFind_rows pv ps t.1 wr (HP.out.below hb) hpl)
      have HNext : Hid (holdsT r t = true → matchS (findL ps) (ls.take (k + 1)) = true) := Lib.hid fun h => by rw [matchS_take HT.out HF.out, ← hr]; exact h
      have HStop : Hid (holdsT r t = false → matchS (findL ps) ls = false) := Lib.hid fun h => matchS_no HT.out (by rw [← hr]; exact h)
      have HK : Hid (∀ W, Below wr.heap.size wr W → W.cell? ⟨g, o + k * 3 + 1, none⟩ = some (.bool t.2.1) ∧ W.cell? ⟨g, o + k * 3 + 2, none⟩ = some (.slice sa t.2.2.length sc)) := Lib.hid fun W h => ⟨(h.cell (p := ⟨g, o + k * 3 + 1, none⟩) hg).trans c1, (h.cell (p := ⟨g, o + k * 3 + 2, none⟩) hg).trans c2⟩
      obtain ⟨tk, tn, tv⟩ := t
      simp only at hr HFi HK c0 hfr
      clear ht hs hcell c1 c2 hr
      cases r with
      | none =>
        change Hid (Calls _ _ _ wr fun e w' => e = .returned (.tuple #[.string ⟨#[]⟩, .bool false]) ∧ _) at HFi
        rw [holds_nil] at HNext HStop
        simp only at HNext HStop
        go_wp2_with fail
        with_reducible refine HFi.out.mono ?_
        rintro e w1 ⟨rfl, hb1⟩
        obtain ⟨d1, d2⟩ := HK.out w1 hb1
        clear c0
        by_cases hz : tv.length = 0
        · have hzz : ¬ (0 : Int) < (tv.length : Int) := by omega
          have hz2 : decide ((0 : Int) < (tv.length : Int)) = false := decide_eq_false hzz
          have hz3 : decide (0 < tv.length) = false := decide_eq_false (by omega)
          have HZ := Lib.hid hz
          clear hz
          cases tn with
          | true =>
            go_wp2
            go_roundw
            case rel => exact ⟨k + 1, by omega, by go_num, HNext.out (by first | rfl | trivial), grows hb hb1⟩
            case measure => simp [intOf]; omega
          | false =>
            go_wp2
            go_ret
            exact ⟨by rw [HStop.out (by first | rfl | trivial)]; rfl, grows hb hb1⟩
        · have hzz : (0 : Int) < (tv.length : Int) := by omega
          have hz2 : decide ((0 : Int) < (tv.length : Int)) = true := decide_eq_true hzz
          have hz3 : decide (0 < tv.length) = true := decide_eq_true (by omega)
          have HZ := Lib.hid hz
          clear hz
          cases tn with
          | true =>
            go_wp2
            go_roundw
            case rel => exact ⟨k + 1, by omega, by go_num, HNext.out (by first | rfl | trivial), grows hb hb1⟩
            case measure => simp [intOf]; omega
          | false =>
            go_wp2
            go_ret
            exact ⟨by rw [HStop.out (by first | rfl | trivial)]; rfl, grows hb hb1⟩
      | some x =>
        change Hid (Calls _ _ _ wr fun e w' => e = .returned (.tuple #[.string x, .bool true]) ∧ _) at HFi
        cases tv with
        | nil =>
          have hh : holdsT (some x) (tk, tn, []) = !tn := by simp [holdsT]
          rw [hh] at HNext HStop
          change Hid (∀ W, Below wr.heap.size wr W → W.cell? ⟨g, o + k * 3 + 1, none⟩ = some (.bool tn) ∧ W.cell? ⟨g, o + k * 3 + 2, none⟩ = some (.slice sa 0 sc)) at HK
          clear hh
          go_wp2_with fail
          with_reducible refine HFi.out.mono ?_
          rintro e w1 ⟨rfl, hb1⟩
          obtain ⟨d1, d2⟩ := HK.out w1 hb1
          clear c0
          cases tn with
          | false =>
            go_wp2
            go_roundw
            case rel => exact ⟨k + 1, by omega, by go_num, HNext.out (by first | rfl | trivial), grows hb hb1⟩
            case measure => simp [intOf]; omega
          | true =>
            go_wp2
            go_ret
            exact ⟨by rw [HStop.out (by first | rfl | trivial)]; rfl, grows hb hb1⟩
        | cons v0 tv =>
          rw [holds_hasV] at HNext HStop
          obtain ⟨m, hme⟩ : ∃ m, m = (v0 :: tv).length := ⟨_, rfl⟩
          have hm0 : (0 : Int) < (m : Int) := by rw [hme]; simp
          obtain ⟨q, hq⟩ : ∃ q, q = hasV x (v0 :: tv) := ⟨_, rfl⟩
          rw [← hq] at HNext HStop
          have HHas : Hid (∀ W, Below wr.heap.size wr W → Calls Try.prog 44 #[.slice sa m sc, .string x] W fun e w' => e = .returned (.bool q) ∧ Below W.heap.size W w') := Lib.hid fun W h => by
            rw [hq, hme]
            exact refHas_any _ (v0 :: tv) x W (HS.out.below h) hfr.2.1
          simp only [← hme] at HK
          have hz2 : decide ((0 : Int) < (m : Int)) = true := decide_eq_true hm0
          clear hq hme hfr
          go_wp2_with fail
          with_reducible refine HFi.out.mono ?_
          rintro e w1 ⟨rfl, hb1⟩
          obtain ⟨d1, d2⟩ := HK.out w1 hb1
          clear c0
          go_wp2_with fail
          with_reducible refine (HHas.out _ hb1).mono ?_
          rintro e w2 ⟨rfl, hb2⟩
          have hb12 := grows hb1 hb2
          obtain ⟨e1, e2⟩ := HK.out w2 hb12
          clear d1 d2 hb1 hb2
          cases q with
          | true =>
            cases tn with
            | false =>
              go_wp2
              go_roundw
              case rel => exact ⟨k + 1, by omega, by go_num, HNext.out (by first | rfl | trivial), grows hb hb12⟩
              case measure => simp [intOf]; omega
            | true =>
              go_wp2
              go_ret
              exact ⟨by rw [HStop.out (by first | rfl | trivial)]; rfl, grows hb hb12⟩
          | false =>
            cases tn with
            | true =>
              go_wp2
              go_roundw
              case rel => exact ⟨k + 1, by omega, by go_num, HNext.out (by first | rfl | trivial), grows hb hb12⟩
              case measure => simp [intOf]; omega
            | false =>
              go_wp2
              go_ret
              exact ⟨by rw [HStop.out (by first | rfl | trivial)]; rfl, grows hb hb12⟩
    · have hltz : ¬ ((k : Int) < (ls.length : Int)) := by omega
      go_wp2
      go_ret
      have := HF.out
      rw [List.take_of_length_le (by omega)] at this
      exact ⟨by rw [this]; rfl, hb⟩

end Go.Proofs.Ytbefnophkaepmaa.Sel

/- Where a gang has room, by plain functions (chapter 13): how many a slot holds, the slot of which the least is left, a fit copy by copy; there is a fit just if there is room for so many; of no program. -/
namespace Go.Proofs.Ytbefnophkaepmaa.Pack

/-- Four amounts, by their places. -/
abbrev V := Nat → Int
/-- A slot: does the selector match it, what is free. -/
abbrev Sl := Bool × V
def Nonneg (x : V) : Prop := ∀ i, i < 4 → 0 ≤ x i
def fits4 (d f : V) : Bool := decide (d 0 ≤ f 0 ∧ d 1 ≤ f 1 ∧ d 2 ≤ f 2 ∧ d 3 ≤ f 3)
theorem all4 {p : Nat → Prop} : (∀ i, i < 4 → p i) ↔ p 0 ∧ p 1 ∧ p 2 ∧ p 3 := by
  constructor
  · intro h; exact ⟨h 0 (by omega), h 1 (by omega), h 2 (by omega), h 3 (by omega)⟩
  · rintro ⟨h0, h1, h2, h3⟩ i hi
    match i with
    | 0 => exact h0
    | 1 => exact h1
    | 2 => exact h2
    | 3 => exact h3
    | _ + 4 => omega
theorem fits4_iff {d f : V} : fits4 d f = true ↔ ∀ i, i < 4 → d i ≤ f i := by
  unfold fits4; rw [decide_eq_true_iff, all4 (p := fun i => d i ≤ f i)]
def sub4 (f d : V) : V := fun i => f i - d i
/-- So many copies have room. -/
def Holds (f d : V) (n : Nat) : Prop := ∀ i, i < 4 → d i * (n : Int) ≤ f i
theorem Holds.down {f d : V} (hd : Nonneg d) {n m : Nat} (h : Holds f d n) (hm : m ≤ n) : Holds f d m := by
  intro i hi
  have := h i hi
  have h2 : d i * (m : Int) ≤ d i * (n : Int) := Int.mul_le_mul_of_nonneg_left (by omega) (hd i hi)
  omega
theorem holds_one {f d : V} : Holds f d 1 ↔ fits4 d f = true := by
  rw [fits4_iff]
  constructor
  · intro h i hi; have := h i hi; simpa using this
  · intro h i hi; have := h i hi; simpa using this
theorem holds_zero {f d : V} (hf : Nonneg f) : Holds f d 0 := by
  intro i hi; have := hf i hi; simpa using this
theorem holds_sub {f d : V} {n : Nat} : Holds (sub4 f d) d n ↔ Holds f d (n + 1) := by
  constructor
  · intro h i hi
    have := h i hi
    unfold sub4 at this
    have e : d i * ((n + 1 : Nat) : Int) = d i * (n : Int) + d i := by rw [Int.natCast_add, Int.mul_add]; simp
    omega
  · intro h i hi
    have := h i hi
    unfold sub4
    have e : d i * ((n + 1 : Nat) : Int) = d i * (n : Int) + d i := by rw [Int.natCast_add, Int.mul_add]; simp
    omega
theorem sub_nonneg {f d : V} (h : fits4 d f = true) : Nonneg (sub4 f d) := by
  rw [fits4_iff] at h
  intro i hi; have := h i hi; unfold sub4; omega
def holdsB (f d : V) (n : Nat) : Bool := decide (d 0 * (n : Int) ≤ f 0 ∧ d 1 * (n : Int) ≤ f 1 ∧ d 2 * (n : Int) ≤ f 2 ∧ d 3 * (n : Int) ≤ f 3)
theorem holdsB_iff {f d : V} {n : Nat} : holdsB f d n = true ↔ Holds f d n := by
  unfold holdsB Holds; rw [decide_eq_true_iff, all4 (p := fun i => d i * (n : Int) ≤ f i)]
/-- The greatest number of copies, up to so many. -/
def holdN (f d : V) : Nat → Nat
  | 0 => 0
  | m + 1 => if holdsB f d (m + 1) then m + 1 else holdN f d m
theorem holdN_le (f d : V) : ∀ m, holdN f d m ≤ m
  | 0 => Nat.le_refl _
  | m + 1 => by unfold holdN; have := holdN_le f d m; split <;> omega
theorem holdN_holds {f d : V} (hf : Nonneg f) : ∀ m, Holds f d (holdN f d m)
  | 0 => holds_zero hf
  | m + 1 => by
    unfold holdN; split
    · rename_i h; exact holdsB_iff.1 h
    · exact holdN_holds hf m
theorem le_holdN {f d : V} (hf : Nonneg f) (hd : Nonneg d) {k : Nat} : ∀ {m}, k ≤ holdN f d m ↔ k ≤ m ∧ Holds f d k
  | 0 => by
    constructor
    · intro h
      have : k = 0 := Nat.le_zero.1 h
      subst this
      exact ⟨Nat.le_refl _, holds_zero hf⟩
    · exact fun h => h.1
  | m + 1 => by
    constructor
    · intro h
      exact ⟨Nat.le_trans h (holdN_le f d _), (holdN_holds hf _).down hd h⟩
    · rintro ⟨h1, h2⟩
      unfold holdN; split
      · exact h1
      · rename_i h
        refine le_holdN hf hd |>.2 ⟨?_, h2⟩
        have : k ≠ m + 1 := by rintro rfl; exact h (holdsB_iff.2 h2)
        omega
/-- It is the number that holds, and one more does not. -/
theorem holdN_unique {f d : V} (hf : Nonneg f) (hd : Nonneg d) {m c : Nat} (h1 : c ≤ m) (h2 : Holds f d c) (h3 : c = m ∨ ¬ Holds f d (c + 1)) : holdN f d m = c := by
  have a := (le_holdN hf hd (m := m)).2 ⟨h1, h2⟩
  have b := holdN_le f d m
  rcases h3 with h | h
  · omega
  · refine Nat.le_antisymm ?_ a
    refine Decidable.byContradiction fun hc => h ?_
    exact ((le_holdN hf hd (k := c + 1) (m := m)).1 (by omega)).2
theorem hold_step {f d : V} (hf : Nonneg f) (hd : Nonneg d) (n : Nat) : holdN f d n ≤ holdN f d (n + 1) ∧ (holdN f d n = holdN f d (n + 1) ∨ n ≤ holdN f d n) := by
  have h1 : holdN f d n ≤ holdN f d (n + 1) := by
    have := (le_holdN hf hd (k := holdN f d n) (m := n)).1 (Nat.le_refl _)
    exact (le_holdN hf hd).2 ⟨by omega, this.2⟩
  refine ⟨h1, ?_⟩
  have h2 := (le_holdN hf hd (k := holdN f d (n + 1)) (m := n + 1)).1 (Nat.le_refl _)
  by_cases h : holdN f d (n + 1) = n + 1
  · right
    exact (le_holdN hf hd).2 ⟨Nat.le_refl _, h2.2.down hd (by omega)⟩
  · left
    exact Nat.le_antisymm h1 ((le_holdN hf hd).2 ⟨by omega, h2.2⟩)
theorem hold_sub {f d : V} (hd : Nonneg d) (h : fits4 d f = true) (n : Nat) : holdN (sub4 f d) d n + 1 = holdN f d (n + 1) := by
  have hs := sub_nonneg h
  have hf : Nonneg f := by
    rw [fits4_iff] at h
    intro i hi; have := h i hi; have := hd i hi; omega
  have g := (le_holdN hs hd (k := holdN (sub4 f d) d n) (m := n)).1 (Nat.le_refl _)
  symm
  refine holdN_unique hf hd (by omega) (holds_sub.1 g.2) ?_
  by_cases hc : holdN (sub4 f d) d n = n
  · left; omega
  · right
    intro hh
    have := (le_holdN hs hd (k := holdN (sub4 f d) d n + 1) (m := n)).2 ⟨by omega, holds_sub.2 hh⟩
    omega
theorem hold_pos {f d : V} (hf : Nonneg f) (hd : Nonneg d) {n : Nat} (hn : 0 < n) : 0 < holdN f d n ↔ fits4 d f = true := by
  rw [← holds_one]
  constructor
  · intro h; exact ((le_holdN hf hd (k := 1) (m := n)).1 h).2
  · intro h; exact (le_holdN hf hd (k := 1) (m := n)).2 ⟨hn, h⟩

/-- What a slot that matches holds; else nothing. -/
def slotN (d : V) (n : Nat) (s : Sl) : Nat := if s.1 then holdN s.2 d n else 0
/-- Over all slots. -/
def sumN (d : V) (n : Nat) (l : List Sl) : Nat := (l.map (slotN d n)).sum
theorem sumN_nil (d : V) (n : Nat) : sumN d n [] = 0 := rfl
theorem sumN_cons (d : V) (n : Nat) (s : Sl) (l : List Sl) : sumN d n (s :: l) = slotN d n s + sumN d n l := by unfold sumN; simp
theorem sumN_append (d : V) (n : Nat) (l r : List Sl) : sumN d n (l ++ r) = sumN d n l + sumN d n r := by unfold sumN; simp
theorem sumN_reverse (d : V) (n : Nat) (l : List Sl) : sumN d n l.reverse = sumN d n l := by unfold sumN; rw [List.map_reverse, List.sum_reverse]
/-- Room, of at most so many. -/
def roomN (d : V) (n : Nat) (l : List Sl) : Nat := min (sumN d n l) n
theorem roomN_reverse (d : V) (n : Nat) (l : List Sl) : roomN d n l.reverse = roomN d n l := by unfold roomN; rw [sumN_reverse]
theorem roomN_zero (d : V) (l : List Sl) : roomN d 0 l = 0 := by unfold roomN; omega
theorem roomN_snoc (d : V) (n : Nat) (l : List Sl) (s : Sl) : roomN d n (l ++ [s]) = min (roomN d n l + slotN d n s) n := by
  unfold roomN; rw [sumN_append, sumN_cons, sumN_nil]; omega
theorem roomN_take {d : V} {n k : Nat} {l : List Sl} {s : Sl} (h : l[k]? = some s) : roomN d n (l.take (k + 1)) = min (roomN d n (l.take k) + slotN d n s) n := by
  rw [List.take_add_one, h, Option.toList, roomN_snoc]
/-- In the document's own way: each adds what is not past the most. -/
theorem roomN_ref {d : V} {n k : Nat} {l : List Sl} {s : Sl} (h : l[k]? = some s) :
    roomN d n (l.take (k + 1)) = roomN d n (l.take k) + min (slotN d n s) (n - roomN d n (l.take k)) := by
  rw [roomN_take h]
  have : roomN d n (l.take k) ≤ n := Nat.min_le_right _ _
  omega
/-- What is free is told in no slot below nothing. -/
def Fair (l : List Sl) : Prop := ∀ s ∈ l, Nonneg s.2
theorem slot_step {s : Sl} {d : V} (hs : Nonneg s.2) (hd : Nonneg d) (n : Nat) : slotN d n s ≤ slotN d (n + 1) s ∧ (slotN d n s = slotN d (n + 1) s ∨ n ≤ slotN d n s) := by
  unfold slotN
  cases s.1
  · exact ⟨Nat.le_refl _, .inl rfl⟩
  · exact hold_step hs hd n
theorem sum_step {d : V} (hd : Nonneg d) (n : Nat) : ∀ {l : List Sl}, Fair l → sumN d n l ≤ sumN d (n + 1) l ∧ (sumN d n l = sumN d (n + 1) l ∨ n ≤ sumN d n l)
  | [], _ => ⟨Nat.le_refl _, .inl rfl⟩
  | s :: l, h => by
    obtain ⟨a1, a2⟩ := slot_step (h s (List.mem_cons_self ..)) hd n
    obtain ⟨b1, b2⟩ := sum_step hd n (l := l) (fun t ht => h t (List.mem_cons_of_mem _ ht))
    rw [sumN_cons, sumN_cons]
    refine ⟨by omega, ?_⟩
    rcases a2 with a2 | a2
    · rcases b2 with b2 | b2
      · left; omega
      · right; omega
    · right; omega

/-- The order of amounts, as chapter 3 has it. -/
def lt4 (x y : V) : Bool := decide (x 0 < y 0 ∨ (x 0 = y 0 ∧ (x 1 < y 1 ∨ (x 1 = y 1 ∧ (x 2 < y 2 ∨ (x 2 = y 2 ∧ x 3 < y 3))))))
theorem lt4_iff {x y : V} : lt4 x y = true ↔ x 0 < y 0 ∨ (x 0 = y 0 ∧ (x 1 < y 1 ∨ (x 1 = y 1 ∧ (x 2 < y 2 ∨ (x 2 = y 2 ∧ x 3 < y 3))))) := by unfold lt4; simp
theorem lt4_not {x y : V} : lt4 x y = false ↔ ¬ (x 0 < y 0 ∨ (x 0 = y 0 ∧ (x 1 < y 1 ∨ (x 1 = y 1 ∧ (x 2 < y 2 ∨ (x 2 = y 2 ∧ x 3 < y 3)))))) := by rw [← lt4_iff]; simp
theorem lt4_irrefl (x : V) : lt4 x x = false := by rw [lt4_not]; omega
theorem lt4_trans {x y z : V} (h : lt4 x y = true) (g : lt4 y z = true) : lt4 x z = true := by
  rw [lt4_iff] at *; omega
theorem lt4_asymm {x y : V} (h : lt4 x y = true) : lt4 y x = false := by
  rw [lt4_iff] at h; rw [lt4_not]; omega
theorem lt4_ntrans {x y z : V} (h : lt4 x y = false) (g : lt4 y z = false) : lt4 x z = false := by
  rw [lt4_not] at *; omega
theorem lt4_mix {x y z : V} (h : lt4 x y = true) (g : lt4 z y = false) : lt4 x z = true := by
  rw [lt4_iff] at *; rw [lt4_not] at g; omega

/-- A slot that one copy may go to. -/
def cand (d : V) (s : Sl) : Bool := s.1 && fits4 d s.2
/-- One round: the slot at this place against the best of those before. -/
def bestStep (d : V) (at' : Nat) (s : Sl) (b : Option (Nat × V)) : Option (Nat × V) :=
  if cand d s then match b with
    | none => some (at', sub4 s.2 d)
    | some (j, w) => if lt4 (sub4 s.2 d) w then some (at', sub4 s.2 d) else some (j, w)
  else b
/-- The best of the first so many. -/
def bestTo (d : V) (l : List Sl) : Nat → Option (Nat × V)
  | 0 => none
  | k + 1 => match l[k]? with
    | some s => bestStep d k s (bestTo d l k)
    | none => bestTo d l k
/-- What is known of the best of the first so many. -/
structure IsBest (d : V) (l : List Sl) (k j : Nat) (w : V) : Prop where
  below : j < k
  there : ∃ s, l[j]? = some s ∧ cand d s = true ∧ w = sub4 s.2 d
  least : ∀ i s, i < k → l[i]? = some s → cand d s = true → lt4 (sub4 s.2 d) w = false
  first : ∀ i s, i < j → l[i]? = some s → cand d s = true → lt4 w (sub4 s.2 d) = true
def Best (d : V) (l : List Sl) (k : Nat) : Option (Nat × V) → Prop
  | none => ∀ i s, i < k → l[i]? = some s → cand d s = false
  | some (j, w) => IsBest d l k j w
theorem best_step {d : V} {l : List Sl} {k : Nat} {s : Sl} {b : Option (Nat × V)} (hs : l[k]? = some s) (h : Best d l k b) : Best d l (k + 1) (bestStep d k s b) := by
  have split_lt : ∀ i, i < k + 1 → i < k ∨ i = k := fun i hi => by omega
  unfold bestStep
  by_cases hc : cand d s = true
  · rw [if_pos hc]
    cases b with
    | none =>
      refine ⟨by omega, ⟨s, hs, hc, rfl⟩, ?_, ?_⟩
      · intro i t hi ht htc
        rcases split_lt i hi with hi | rfl
        · rw [h i t hi ht] at htc; cases htc
        · rw [hs] at ht; cases ht; exact lt4_irrefl _
      · intro i t hi ht htc
        rw [h i t hi ht] at htc; cases htc
    | some p =>
      obtain ⟨j, w⟩ := p
      have h : IsBest d l k j w := h
      show Best d l (k + 1) (if lt4 (sub4 s.2 d) w = true then some (k, sub4 s.2 d) else some (j, w))
      by_cases hl : lt4 (sub4 s.2 d) w = true
      · rw [if_pos hl]
        refine ⟨by omega, ⟨s, hs, hc, rfl⟩, ?_, ?_⟩
        · intro i t hi ht htc
          rcases split_lt i hi with hi | rfl
          · have := h.least i t hi ht htc
            exact lt4_asymm (lt4_mix hl this)
          · rw [hs] at ht; cases ht; exact lt4_irrefl _
        · intro i t hi ht htc
          exact lt4_mix hl (h.least i t hi ht htc)
      · rw [if_neg hl]
        refine ⟨by have := h.below; omega, h.there, ?_, h.first⟩
        intro i t hi ht htc
        rcases split_lt i hi with hi | rfl
        · exact h.least i t hi ht htc
        · rw [hs] at ht; cases ht; simpa using hl
  · rw [if_neg hc]
    cases b with
    | none =>
      intro i t hi ht
      rcases split_lt i hi with hi | rfl
      · exact h i t hi ht
      · rw [hs] at ht; cases ht; simpa using hc
    | some p =>
      obtain ⟨j, w⟩ := p
      have h : IsBest d l k j w := h
      refine ⟨by have := h.below; omega, h.there, ?_, h.first⟩
      intro i t hi ht htc
      rcases split_lt i hi with hi | rfl
      · exact h.least i t hi ht htc
      · rw [hs] at ht; cases ht; exact absurd htc hc
theorem bestTo_best (d : V) (l : List Sl) : ∀ k, k ≤ l.length → Best d l k (bestTo d l k)
  | 0, _ => fun i s hi => absurd hi (by omega)
  | k + 1, hk => by
    obtain ⟨s, hs⟩ : ∃ s, l[k]? = some s := ⟨_, List.getElem?_eq_getElem (by omega)⟩
    unfold bestTo; rw [hs]
    exact best_step hs (bestTo_best d l k (by omega))
theorem bestTo_succ {d : V} {l : List Sl} {k : Nat} {s : Sl} (hs : l[k]? = some s) : bestTo d l (k + 1) = bestStep d k s (bestTo d l k) := by
  show (match l[k]? with | some s => bestStep d k s (bestTo d l k) | none => bestTo d l k) = _
  rw [hs]
/-- The best slot of all: its place. -/
def bestL (d : V) (l : List Sl) : Option Nat := (bestTo d l l.length).map (·.1)
theorem best_unique {d : V} {l : List Sl} {k j j' : Nat} {w w' : V} (h : IsBest d l k j w) (h' : IsBest d l k j' w') : j = j' := by
  obtain ⟨s, hs, hc, e⟩ := h.there
  obtain ⟨s', hs', hc', e'⟩ := h'.there
  have a := h.below
  have b := h'.below
  rcases Nat.lt_trichotomy j j' with hl | hl | hl
  · have x := h'.first j s hl hs hc
    have y := h.least j' s' b hs' hc'
    rw [← e] at x; rw [← e'] at y; rw [x] at y; cases y
  · exact hl
  · have x := h.first j' s' hl hs' hc'
    have y := h'.least j s a hs hc
    rw [← e'] at x; rw [← e] at y; rw [x] at y; cases y
theorem bestL_some {d : V} {l : List Sl} {j : Nat} (h : bestL d l = some j) : ∃ s, l[j]? = some s ∧ cand d s = true := by
  unfold bestL at h
  have hb := bestTo_best d l l.length (Nat.le_refl _)
  cases hc : bestTo d l l.length with
  | none => rw [hc] at h; cases h
  | some p =>
    rw [hc] at h hb
    obtain ⟨j', w⟩ := p
    have : j' = j := by simpa using h
    subst this
    have hb : IsBest d l l.length j' w := hb
    obtain ⟨s, h1, h2, _⟩ := hb.there
    exact ⟨s, h1, h2⟩
theorem bestL_none {d : V} {l : List Sl} (h : bestL d l = none) : ∀ s ∈ l, cand d s = false := by
  unfold bestL at h
  have hb := bestTo_best d l l.length (Nat.le_refl _)
  cases hc : bestTo d l l.length with
  | none =>
    rw [hc] at hb
    intro s hs
    obtain ⟨i, hi, e⟩ := List.getElem_of_mem hs
    exact hb i s hi (by rw [← e]; exact List.getElem?_eq_getElem hi)
  | some p => rw [hc] at h; cases h
theorem bestL_of {d : V} {l : List Sl} {j : Nat} {w : V} (h : IsBest d l l.length j w) : bestL d l = some j := by
  unfold bestL
  have hb := bestTo_best d l l.length (Nat.le_refl _)
  cases hc : bestTo d l l.length with
  | none =>
    rw [hc] at hb
    obtain ⟨s, h1, h2, _⟩ := h.there
    rw [hb j s h.below h1] at h2; cases h2
  | some p =>
    rw [hc] at hb
    obtain ⟨j', w'⟩ := p
    exact congrArg some (best_unique (show IsBest d l l.length j' w' from hb) h)
theorem bestL_of_none {d : V} {l : List Sl} (h : ∀ s ∈ l, cand d s = false) : bestL d l = none := by
  cases hc : bestL d l with
  | none => rfl
  | some j =>
    obtain ⟨s, h1, h2⟩ := bestL_some hc
    rw [h s (List.mem_of_getElem? h1)] at h2; cases h2

/-- A copy goes to that slot. -/
def takeAt (d : V) (l : List Sl) (j : Nat) : List Sl := match l[j]? with
  | some s => l.set j (s.1, sub4 s.2 d)
  | none => l
theorem takeAt_some {d : V} {l : List Sl} {j : Nat} {s : Sl} (h : l[j]? = some s) : takeAt d l j = l.set j (s.1, sub4 s.2 d) := by unfold takeAt; rw [h]
theorem takeAt_length (d : V) (l : List Sl) (j : Nat) : (takeAt d l j).length = l.length := by
  unfold takeAt; split
  · rw [List.length_set]
  · rfl
/-- A fit, copy by copy: the places of the slots, and what is left of all. -/
def fitL (d : V) : Nat → List Sl → Option (List Nat × List Sl)
  | 0, l => some ([], l)
  | n + 1, l => match bestL d l with
    | none => none
    | some j => match fitL d n (takeAt d l j) with
      | none => none
      | some (js, r) => some (j :: js, r)
theorem fitL_succ_none {d : V} {n : Nat} {l : List Sl} (h : bestL d l = none) : fitL d (n + 1) l = none := by unfold fitL; rw [h]
theorem fitL_succ_some {d : V} {n j : Nat} {l : List Sl} (h : bestL d l = some j) : fitL d (n + 1) l = (fitL d n (takeAt d l j)).map (fun p => (j :: p.1, p.2)) := by
  show (match bestL d l with | none => none | some j => match fitL d n (takeAt d l j) with | none => none | some (js, r) => some (j :: js, r)) = _
  rw [h]
  cases hc : fitL d n (takeAt d l j) with
  | none => simp only [hc]; rfl
  | some p => simp only [hc]; rfl
theorem take_fair {d : V} {l : List Sl} {j : Nat} {s : Sl} (hl : Fair l) (hs : l[j]? = some s) (hc : cand d s = true) : Fair (takeAt d l j) := by
  rw [takeAt_some hs]
  intro t ht
  rcases List.mem_or_eq_of_mem_set ht with ht | rfl
  · exact hl t ht
  · unfold cand at hc
    rw [Bool.and_eq_true] at hc
    exact sub_nonneg hc.2
theorem best_fair {d : V} {l : List Sl} {j : Nat} (hl : Fair l) (h : bestL d l = some j) : Fair (takeAt d l j) := by
  obtain ⟨s, h1, h2⟩ := bestL_some h
  exact take_fair hl h1 h2
theorem cand_slot {s : Sl} {d : V} (hs : Nonneg s.2) (hd : Nonneg d) {n : Nat} (hn : 0 < n) : 0 < slotN d n s ↔ cand d s = true := by
  unfold slotN cand
  cases s.1
  · simp
  · simp only [if_true, Bool.true_and]; exact hold_pos hs hd hn
/-- P13.3: there is a fit just if there is room for so many. -/
theorem fit_room {d : V} (hd : Nonneg d) : ∀ (n : Nat) {l : List Sl}, Fair l → ((fitL d n l).isSome = true ↔ n ≤ sumN d n l)
  | 0, l, _ => by simp [fitL]
  | n + 1, l, hl => by
    cases hb : bestL d l with
    | none =>
      rw [fitL_succ_none hb]
      have hz : sumN d (n + 1) l = 0 := by
        have hn := bestL_none hb
        clear hb
        induction l with
        | nil => rfl
        | cons s l ih =>
          rw [sumN_cons, ih (fun t ht => hl t (List.mem_cons_of_mem _ ht)) (fun t ht => hn t (List.mem_cons_of_mem _ ht))]
          have h0 := hn s (List.mem_cons_self ..)
          have := cand_slot (hl s (List.mem_cons_self ..)) hd (n := n + 1) (by omega)
          rw [h0] at this
          have : ¬ 0 < slotN d (n + 1) s := fun h => by cases this.1 h
          omega
      rw [hz]; simp
    | some j =>
      obtain ⟨s, hs, hc⟩ := bestL_some hb
      have hf := take_fair hl hs hc
      rw [fitL_succ_some hb]
      have ih := fit_room hd n hf
      have : ((fitL d n (takeAt d l j)).map (fun p => (j :: p.1, p.2))).isSome = (fitL d n (takeAt d l j)).isSome := by
        cases fitL d n (takeAt d l j) <;> rfl
      rw [this, ih, takeAt_some hs]
      obtain ⟨hj, e⟩ := List.getElem?_eq_some_iff.1 hs
      have hsplit : l = l.take j ++ s :: l.drop (j + 1) := by
        rw [← e, List.getElem_cons_drop]; exact (List.take_append_drop j l).symm
      have hset : l.set j (s.1, sub4 s.2 d) = l.take j ++ (s.1, sub4 s.2 d) :: l.drop (j + 1) := by
        rw [List.set_eq_take_append_cons_drop, if_pos hj]
      have s1 : Fair (l.take j) := fun t ht => hl t (List.mem_of_mem_take ht)
      have s2 : Fair (l.drop (j + 1)) := fun t ht => hl t (List.mem_of_mem_drop ht)
      obtain ⟨a1, a2⟩ := sum_step hd n s1
      obtain ⟨b1, b2⟩ := sum_step hd n s2
      have e1 : sumN d (n + 1) l = sumN d (n + 1) (l.take j) + (slotN d (n + 1) s + sumN d (n + 1) (l.drop (j + 1))) := by
        conv => lhs; rw [hsplit]
        rw [sumN_append, sumN_cons]
      rw [hset, sumN_append, sumN_cons, e1]
      have hm : s.1 = true ∧ fits4 d s.2 = true := by unfold cand at hc; rw [Bool.and_eq_true] at hc; exact hc
      have e2 : slotN d n (s.1, sub4 s.2 d) + 1 = slotN d (n + 1) s := by
        unfold slotN; simp only [hm.1, if_true]; exact hold_sub hd hm.2 n
      constructor
      · intro h; omega
      · intro h
        rcases a2 with a2 | a2
        · rcases b2 with b2 | b2 <;> omega
        · omega
theorem fit_length {d : V} : ∀ {n : Nat} {l : List Sl} {js : List Nat} {r : List Sl}, fitL d n l = some (js, r) → js.length = n ∧ r.length = l.length
  | 0, l, js, r, h => by cases h; exact ⟨rfl, rfl⟩
  | n + 1, l, js, r, h => by
    cases hb : bestL d l with
    | none => rw [fitL_succ_none hb] at h; cases h
    | some j =>
      rw [fitL_succ_some hb] at h
      cases hc : fitL d n (takeAt d l j) with
      | none => rw [hc] at h; cases h
      | some p =>
        rw [hc] at h
        obtain ⟨js', r'⟩ := p
        cases h
        obtain ⟨h1, h2⟩ := fit_length hc
        exact ⟨by rw [List.length_cons, h1], by rw [h2, takeAt_length]⟩
/-- Where more fit fewer do, on the first of the same slots. -/
theorem fit_fewer {d : V} : ∀ {n : Nat} {l : List Sl} {js : List Nat} {r : List Sl} (k : Nat), fitL d n l = some (js, r) → k ≤ n → ∃ r', fitL d k l = some (js.take k, r')
  | n, l, js, r, 0, h, _ => ⟨l, by simp [fitL]⟩
  | 0, l, js, r, k + 1, h, hk => by omega
  | n + 1, l, js, r, k + 1, h, hk => by
    cases hb : bestL d l with
    | none => rw [fitL_succ_none hb] at h; cases h
    | some j =>
      rw [fitL_succ_some hb] at h
      cases hc : fitL d n (takeAt d l j) with
      | none => rw [hc] at h; cases h
      | some p =>
        rw [hc] at h
        obtain ⟨js', r'⟩ := p
        cases h
        obtain ⟨r2, h2⟩ := fit_fewer k hc (by omega)
        refine ⟨r2, ?_⟩
        rw [fitL_succ_some hb, h2]; rfl
/-- A slot behind all that no copy may go to turns nothing. -/
theorem best_more {d : V} {l : List Sl} {s : Sl} (hs : cand d s = false) : bestL d (l ++ [s]) = bestL d l := by
  have at_old : ∀ i t, i < l.length → (l ++ [s])[i]? = some t → l[i]? = some t := fun i t hi ht => by rwa [List.getElem?_append_left hi] at ht
  cases hb : bestL d l with
  | none =>
    have hn := bestL_none hb
    refine bestL_of_none ?_
    intro t ht
    rcases List.mem_append.1 ht with ht | ht
    · exact hn t ht
    · rw [List.mem_singleton.1 ht]; exact hs
  | some j =>
    unfold bestL at hb
    have hh := bestTo_best d l l.length (Nat.le_refl _)
    cases hc : bestTo d l l.length with
    | none => rw [hc] at hb; cases hb
    | some p =>
      rw [hc] at hb hh
      obtain ⟨j', w⟩ := p
      have : j' = j := by simpa using hb
      subst this
      have hh : IsBest d l l.length j' w := hh
      refine bestL_of (w := w) ⟨by rw [List.length_append]; have := hh.below; omega, ?_, ?_, ?_⟩
      · obtain ⟨t, h1, h2, h3⟩ := hh.there
        exact ⟨t, by rw [List.getElem?_append_left hh.below]; exact h1, h2, h3⟩
      · intro i t hi ht htc
        by_cases hil : i < l.length
        · exact hh.least i t hil (at_old i t hil ht) htc
        · rw [List.getElem?_append_right (by omega)] at ht
          have hi' : i - l.length = 0 := by rw [List.length_append, List.length_singleton] at hi; omega
          rw [hi'] at ht
          cases ht
          rw [hs] at htc; cases htc
      · intro i t hi ht htc
        exact hh.first i t hi (at_old i t (by have := hh.below; omega) ht) htc
theorem takeAt_append {d : V} {l : List Sl} {s : Sl} {j : Nat} (hj : j < l.length) : takeAt d (l ++ [s]) j = takeAt d l j ++ [s] := by
  obtain ⟨t, ht⟩ : ∃ t, l[j]? = some t := ⟨_, List.getElem?_eq_getElem hj⟩
  rw [takeAt_some ht, takeAt_some (s := t) (by rw [List.getElem?_append_left hj]; exact ht), List.set_append_left _ _ hj]
theorem fit_more {d : V} {s : Sl} (hs : cand d s = false) : ∀ {n : Nat} {l : List Sl}, fitL d n (l ++ [s]) = (fitL d n l).map (fun p => (p.1, p.2 ++ [s]))
  | 0, _ => rfl
  | n + 1, l => by
    cases hb : bestL d l with
    | none => rw [fitL_succ_none hb, fitL_succ_none ((best_more hs).trans hb)]; rfl
    | some j =>
      obtain ⟨t, ht, _⟩ := bestL_some hb
      obtain ⟨hj, _⟩ := List.getElem?_eq_some_iff.1 ht
      rw [fitL_succ_some hb, fitL_succ_some ((best_more hs).trans hb), takeAt_append hj, fit_more hs (n := n)]
      cases fitL d n (takeAt d l j) <;> rfl
/-- The states of a fit, copy by copy: what is left ahead of a copy. -/
def leftAt (d : V) : List Nat → List Sl → List Sl
  | [], l => l
  | j :: js, l => leftAt d js (takeAt d l j)
theorem leftAt_snoc (d : V) (j : Nat) : ∀ (js : List Nat) (l : List Sl), leftAt d (js ++ [j]) l = takeAt d (leftAt d js l) j
  | [], _ => rfl
  | i :: js, l => leftAt_snoc d j js (takeAt d l i)
theorem leftAt_take {d : V} {js : List Nat} {l : List Sl} {i j : Nat} (h : js[i]? = some j) : leftAt d (js.take (i + 1)) l = takeAt d (leftAt d (js.take i) l) j := by
  rw [List.take_add_one, h, Option.toList, leftAt_snoc]
/-- Each copy goes to the best slot of what is left ahead of it. -/
theorem fit_best {d : V} : ∀ {n : Nat} {l : List Sl} {js : List Nat} {r : List Sl}, fitL d n l = some (js, r) → ∀ i j, js[i]? = some j → bestL d (leftAt d (js.take i) l) = some j
  | 0, l, js, r, h => by cases h; intro i j hj; cases hj
  | n + 1, l, js, r, h => by
    cases hb : bestL d l with
    | none => rw [fitL_succ_none hb] at h; cases h
    | some j0 =>
      rw [fitL_succ_some hb] at h
      cases hc : fitL d n (takeAt d l j0) with
      | none => rw [hc] at h; cases h
      | some p =>
        rw [hc] at h
        obtain ⟨js', r'⟩ := p
        cases h
        intro i j hj
        cases i with
        | zero => simp at hj; subst hj; exact hb
        | succ i => simpa [leftAt] using fit_best hc i j (by simpa using hj)
theorem leftAt_length (d : V) : ∀ (js : List Nat) (l : List Sl), (leftAt d js l).length = l.length
  | [], l => rfl
  | j :: js, l => by unfold leftAt; rw [leftAt_length d js, takeAt_length]
/-- From the front: a fit of so many, and one more, or none for it. -/
theorem fit_snoc {d : V} : ∀ {n : Nat} {l : List Sl} {js : List Nat} {r : List Sl}, fitL d n l = some (js, r) → r = leftAt d js l ∧
    fitL d (n + 1) l = (bestL d r).map (fun j => (js ++ [j], takeAt d r j))
  | 0, l, js, r, h => by
    cases h
    refine ⟨rfl, ?_⟩
    cases hb : bestL d l with
    | none => rw [fitL_succ_none hb]; rfl
    | some j => rw [fitL_succ_some hb]; rfl
  | n + 1, l, js, r, h => by
    cases hb : bestL d l with
    | none => rw [fitL_succ_none hb] at h; cases h
    | some j0 =>
      rw [fitL_succ_some hb] at h
      cases hc : fitL d n (takeAt d l j0) with
      | none => rw [hc] at h; cases h
      | some p =>
        rw [hc] at h
        obtain ⟨js', r'⟩ := p
        cases h
        obtain ⟨h1, h2⟩ := fit_snoc hc
        refine ⟨by rw [h1]; rfl, ?_⟩
        rw [fitL_succ_some hb, h2]
        cases bestL d r' <;> rfl
/-- Where so many don't fit, more don't. -/
theorem fit_none {d : V} {n m : Nat} {l : List Sl} (h : fitL d n l = none) (hm : n ≤ m) : fitL d m l = none := by
  cases hc : fitL d m l with
  | none => rfl
  | some p =>
    obtain ⟨js, r⟩ := p
    obtain ⟨r', h'⟩ := fit_fewer n hc hm
    rw [h'] at h; cases h
/-- A slot of nothing: a copy of something may not go there. -/
theorem cand_nothing {d : V} {b : Bool} (hd : Nonneg d) (h : ¬ ∀ i, i < 4 → d i = 0) : cand d (b, fun _ => 0) = false := by
  cases hc : cand d (b, fun _ => 0)
  · rfl
  · unfold cand at hc
    rw [Bool.and_eq_true, fits4_iff] at hc
    refine absurd (fun i hi => ?_) h
    have := hc.2 i hi
    have := hd i hi
    simp only at *
    omega
end Go.Proofs.Ytbefnophkaepmaa.Pack

/- Slots in memory (chapter 13): a slice of structs of a text, four amounts and a slice of labels; of two types of slots alike. -/
namespace Go.Proofs.Ytbefnophkaepmaa.Pack
open Go.RowKit Go.Proofs.Ytbefnophkaepmaa.Label Go.Proofs.Ytbefnophkaepmaa.Sel Go.Proofs.Ytbefnophkaepmaa.Vec

/-- A slot as it lies: its node, what is free, its labels. -/
structure Slot where
  node : ByteArray
  free : Nat → Int
  labs : List Pr
/-- Its amounts are of 64 bits; its labels are no more than memory holds. -/
structure Slot.ok (s : Slot) : Prop where
  free : InRange s.free
  labs : s.labs.length ≤ 4398046511104
/-- Its cells: the last one is its labels' slice. -/
def cellsS (s : Slot) (lv : Value) : List Value := [.string s.node, .int .u64 (s.free 0), .int .u64 (s.free 1), .int .u64 (s.free 2), .int .u64 (s.free 3), lv]
/-- Slots in cells. -/
def SCells (w : World) (g o : Nat) (ls : List Slot) : Prop :=
  ∀ j s, ls[j]? = some s → ∃ lv, (∀ i v, (cellsS s lv)[i]? = some v → w.cell? ⟨g, o + j * 6 + i, none⟩ = some v) ∧ Row w lv s.labs ∧ s.ok
/-- A slice of slots. -/
def SlRow (w : World) (v : Value) (ls : List Slot) : Prop :=
  (ls = [] ∧ ∃ a cap, v = .slice a 0 cap ∧ cap ≤ maxLen) ∨ (ls ≠ [] ∧ ∃ g o cap, v = .slice (some ⟨g, o, none⟩) ls.length cap ∧ g < w.heap.size ∧ ls.length ≤ cap ∧ cap ≤ maxLen ∧ SCells w g o ls)
theorem SCells.below {w w' : World} {g o : Nat} {ls : List Slot} (h : SCells w g o ls) (hg : g < w.heap.size) (hb : Below w.heap.size w w') : SCells w' g o ls := fun j s hj => by
  obtain ⟨lv, h1, h2, h3⟩ := h j s hj
  exact ⟨lv, fun i v hi => by rw [hb.cell (p := ⟨g, o + j * 6 + i, none⟩) hg]; exact h1 i v hi, h2.below hb, h3⟩
theorem SlRow.below {w w' : World} {v : Value} {ls : List Slot} (h : SlRow w v ls) (hb : Below w.heap.size w w') : SlRow w' v ls := by
  rcases h with h | ⟨h0, g, o, cap, h1, h2, h3, h4, h5⟩
  · exact .inl h
  · exact .inr ⟨h0, g, o, cap, h1, by have := hb.size; omega, h3, h4, h5.below h2 hb⟩
theorem SlRow.slice {w : World} {v : Value} {ls : List Slot} (h : SlRow w v ls) : ∃ a cap, v = .slice a ls.length cap ∧ ls.length ≤ cap ∧ cap ≤ maxLen := by
  rcases h with ⟨rfl, a, cap, rfl, hm⟩ | ⟨_, g, o, cap, rfl, _, hc, hm, _⟩
  · exact ⟨_, _, rfl, Nat.zero_le _, hm⟩
  · exact ⟨_, _, rfl, hc, hm⟩
theorem SlRow.cells {w : World} {a : Option Addr} {cap k n : Nat} {ls : List Slot} (h : SlRow w (.slice a n cap) ls) (hk : k < ls.length) : ∃ g o, a = some ⟨g, o, none⟩ ∧ g < w.heap.size ∧ SCells w g o ls := by
  rcases h with ⟨rfl, _⟩ | ⟨_, g, o, cap', hsl, hg, _, _, hcell⟩
  · simp at hk
  · injection hsl with h1 _ _
    exact ⟨g, o, h1, hg, hcell⟩
theorem SlRow.nil (w : World) : SlRow w (.slice none 0 0) [] := .inl ⟨rfl, _, _, rfl, Nat.zero_le _⟩
theorem SlRow.len {w : World} {v : Value} {ls : List Slot} (h : SlRow w v ls) : ls.length ≤ 9223372036854775807 := by
  obtain ⟨_, cap, _, h1, h2⟩ := h.slice
  unfold maxLen at h2
  omega
theorem SlRow.ok {w : World} {v : Value} {ls : List Slot} (h : SlRow w v ls) : ∀ s ∈ ls, s.ok := fun s hs => by
  rcases h with ⟨rfl, _⟩ | ⟨_, g, o, cap, _, _, _, _, h5⟩
  · simp at hs
  · obtain ⟨i, hi⟩ := List.mem_iff_getElem?.1 hs
    obtain ⟨_, _, _, h⟩ := h5 i s hi
    exact h
/-- The cells of one, by name. -/
theorem SCells.six {w : World} {g o j : Nat} {ls : List Slot} {s : Slot} (h : SCells w g o ls) (hj : ls[j]? = some s) :
    ∃ la lc, w.cell? ⟨g, o + j * 6, none⟩ = some (.string s.node) ∧ w.cell? ⟨g, o + j * 6 + 1, none⟩ = some (.int .u64 (s.free 0)) ∧ w.cell? ⟨g, o + j * 6 + 1 + 1, none⟩ = some (.int .u64 (s.free 1)) ∧ w.cell? ⟨g, o + j * 6 + 1 + 2, none⟩ = some (.int .u64 (s.free 2)) ∧
      w.cell? ⟨g, o + j * 6 + 1 + 3, none⟩ = some (.int .u64 (s.free 3)) ∧ w.cell? ⟨g, o + j * 6 + 5, none⟩ = some (.slice la s.labs.length lc) ∧ Row w (.slice la s.labs.length lc) s.labs ∧ s.ok := by
  obtain ⟨lv, h1, h2, h3⟩ := h j s hj
  obtain ⟨la, lc, rfl⟩ := Label.Row.slice h2
  exact ⟨la, lc, h1 0 _ rfl, h1 1 _ rfl, h1 2 _ rfl, h1 3 _ rfl, h1 4 _ rfl, h1 5 _ rfl, h2, h3⟩

/-- What the plain mathematics sees of a slot: does the selector match it, what is free. -/
def seen (ts : List Tm) (s : Slot) : Sl := (matchS (findL s.labs) ts, s.free)
def seenAll (ts : List Tm) (ls : List Slot) : List Sl := ls.map (seen ts)
theorem seenAll_get {ts : List Tm} {ls : List Slot} {k : Nat} {s : Slot} (h : ls[k]? = some s) : (seenAll ts ls)[k]? = some (seen ts s) := by unfold seenAll; rw [List.getElem?_map, h]; rfl
theorem nonneg {x : Nat → Int} (h : InRange x) : Nonneg x := fun i hi => (h i hi).1
/-- How many are held, by program and by plain mathematics. -/
theorem cnt_hold {f d : Nat → Int} (hf : InRange f) (hd : InRange d) (m : Nat) : cnt f d (m : Int) 4 = (holdN f d m : Int) := by
  have spec : ∀ k, k ≤ 4 → (∀ i, i < k → 0 < d i → cnt f d m k ≤ f i / d i) ∧ (cnt f d m k = m ∨ ∃ i, i < k ∧ 0 < d i ∧ cnt f d m k = f i / d i) := by
    intro k
    induction k with
    | zero => exact fun _ => ⟨fun i hi => absurd hi (by omega), .inl rfl⟩
    | succ k ih =>
      intro hk
      obtain ⟨h1, h2⟩ := ih (by omega)
      by_cases h0 : 0 < d k
      · rw [cnt_pos h0]
        unfold least
        by_cases hq : f k / d k < cnt f d m k
        · rw [if_pos hq]
          refine ⟨fun i hi hp => ?_, .inr ⟨k, by omega, h0, rfl⟩⟩
          by_cases e : i = k
          · subst e; exact Int.le_refl _
          · have := h1 i (by omega) hp; omega
        · rw [if_neg hq]
          refine ⟨fun i hi hp => ?_, h2.imp id (fun ⟨i, hi, hp, e⟩ => ⟨i, by omega, hp, e⟩)⟩
          by_cases e : i = k
          · subst e; omega
          · exact h1 i (by omega) hp
      · rw [cnt_neg h0]
        refine ⟨fun i hi hp => ?_, h2.imp id (fun ⟨i, hi, hp, e⟩ => ⟨i, by omega, hp, e⟩)⟩
        by_cases e : i = k
        · subst e; exact absurd hp h0
        · exact h1 i (by omega) hp
  obtain ⟨s1, s2⟩ := spec 4 (Nat.le_refl _)
  obtain ⟨b0, b1⟩ := cnt_bounds (y := d) hf (Int.natCast_nonneg m) 4 (Nat.le_refl _)
  obtain ⟨c, hc⟩ : ∃ c : Nat, cnt f d m 4 = (c : Int) := Int.eq_ofNat_of_zero_le b0
  rw [hc] at s1 s2 b1 ⊢
  rw [holdN_unique (nonneg hf) (nonneg hd) (c := c) (by omega) ?_ ?_]
  · intro i hi
    by_cases h0 : 0 < d i
    · have := s1 i hi h0
      have h3 := Int.mul_le_of_le_ediv h0 this
      rw [Int.mul_comm]; exact h3
    · have : d i = 0 := by have := (hd i hi).1; omega
      rw [this, Int.zero_mul]; exact (hf i hi).1
  · rcases s2 with e | ⟨i, hi, h0, e⟩
    · left; omega
    · right
      intro hh
      have := hh i hi
      have h3 : ((c + 1 : Nat) : Int) ≤ f i / d i := by
        refine Int.le_ediv_of_mul_le h0 ?_
        rw [Int.mul_comm]; exact this
      omega
/-- The order of amounts, by program and by plain mathematics. -/
theorem ordV_lt {x y : Nat → Int} : ordV x y < 0 ↔ lt4 x y = true := by
  rw [lt4_iff]
  have c : ∀ a b : Int, (cmp a b = -1 ∧ a < b) ∨ (cmp a b = 0 ∧ a = b) ∨ (cmp a b = 1 ∧ b < a) := by
    intro a b
    unfold cmp
    by_cases h : a < b
    · left; exact ⟨if_pos h, h⟩
    · by_cases h2 : b < a
      · right; right; exact ⟨by rw [if_neg h, if_pos h2], h2⟩
      · right; left; exact ⟨by rw [if_neg h, if_neg h2], by omega⟩
  unfold ordV
  rcases c (x 0) (y 0) with ⟨e, h⟩ | ⟨e, h⟩ | ⟨e, h⟩ <;> rw [e]
  · simp; omega
  · rcases c (x 1) (y 1) with ⟨e1, h1⟩ | ⟨e1, h1⟩ | ⟨e1, h1⟩ <;> rw [e1]
    · simp; omega
    · rcases c (x 2) (y 2) with ⟨e2, h2⟩ | ⟨e2, h2⟩ | ⟨e2, h2⟩ <;> rw [e2]
      · simp; omega
      · rcases c (x 3) (y 3) with ⟨e3, h3⟩ | ⟨e3, h3⟩ | ⟨e3, h3⟩ <;> rw [e3]
        · simp; omega
        · simp; omega
        · simp; omega
      · simp; omega
    · simp; omega
  · simp; omega
end Go.Proofs.Ytbefnophkaepmaa.Pack

/- What the document's own Room answers of any slots, selector, demand, number (chapter 13), and what the statements' own texts does; of memory that was there nothing turns. -/
namespace Go.Proofs.Ytbefnophkaepmaa.Pack
open Go.RowKit Go.Proofs.Ytbefnophkaepmaa.Label Go.Proofs.Ytbefnophkaepmaa.Sel Go.Proofs.Ytbefnophkaepmaa.Vec Go.Proofs.Ytbefnophkaepmaa.Texts

theorem min_int (x y z : Int) (h : (x ≤ y ∧ z = x) ∨ (y ≤ x ∧ z = y)) (w : World) : (Builtin.min_ #[3, 3] 3 #[.int .i64 x, .int .i64 y]).run Try.prog w = .ok (.int .i64 z) w := by
  rcases h with ⟨h, rfl⟩ | ⟨h, rfl⟩
  · go_simp
    omega
  · go_simp
    omega
theorem one_box (w : World) (x : Nat → Int) {w' : World} (h : Below (w.alloc (boxR x)).heap.size (w.alloc (boxR x)) w') : w'.heap[w.heap.size]? = some (boxR x) := by
  rw [h.block _ (by simp)]; exact heap_alloc_new _ _
/-- What the document's own Match says of a slot. -/
theorem refMatch_slot {ts : List Tm} (hf : Sel.Fair ts) {u : Value} {s : Slot} (hs : s.ok) {lv : Value} (w : World) (hu : TRow w u ts) (hl : Row w lv s.labs) :
    Calls Try.prog 30 #[u, lv] w fun e w' => e = .returned (.bool (seen ts s).1) ∧ Below w.heap.size w w' :=
  refMatch_any u ts lv s.labs w hu hf hl (by have := hs.labs; omega)

set_option maxHeartbeats 4000000 in
set_option maxRecDepth 100000 in
theorem refRoom_any (v u : Value) (ls : List Slot) (ts : List Tm) (d : Nat → Int) (n : Int) (w : World) (hv : SlRow w v ls) (hu : TRow w u ts) (hf : Sel.Fair ts) (hd : InRange d) (hn : -9223372036854775808 ≤ n ∧ n ≤ 9223372036854775807) :
    Calls Try.prog 17 #[v, u, vec (d 0) (d 1) (d 2) (d 3), .int .i64 n] w fun e w' => e = .returned (.int .i64 (roomN d n.toNat (seenAll ts ls) : Int)) ∧ Below w.heap.size w w' := by
  obtain ⟨M, hM⟩ : ∃ M : Nat, n.toNat = M := ⟨_, rfl⟩
  rw [hM]
  have hM9 : (M : Int) ≤ 9223372036854775807 := by omega
  have hmax := max_int n 0 (M : Int) (by omega)
  have hl := hv.len
  obtain ⟨a, cap, rfl, _, _⟩ := hv.slice
  obtain ⟨W, hW⟩ : ∃ W, W = w.alloc (boxR d) := ⟨_, rfl⟩
  have hwW : Below w.heap.size w W := by rw [hW]; exact (Below.refl _ _).alloc (Nat.le_refl _) _
  have HB := Lib.hid (fun w' (h : Below W.heap.size W w') => one_box w d (w' := w') (by rw [hW] at h; exact h))
  have HV := Lib.hid (hv.below hwW)
  have HU := Lib.hid (hu.below hwW)
  have HF := Lib.hid hf
  have HD := Lib.hid hd
  have HW := Lib.hid hW
  unfold vec
  unfold boxR at HW
  clear hv hu hf hd hW hM hn
  go_enter Try.func17, Try.ntmps17
  go_upto_region 1 with fail
  rw [← HW.out]
  clear HW
  go_wp2
  clear hmax
  go_loopw [9, 10] (fun r t wr => ∃ k : Nat, k ≤ ls.length ∧ t = .int .i64 k ∧ r = .int .i64 (roomN d M (seenAll ts (ls.take k)) : Int) ∧ Below W.heap.size W wr) (fun _ t _ => ls.length - (intOf t).toNat)
  case atStart => exact ⟨0, Nat.zero_le _, rfl, by rfl, Below.refl _ _⟩
  case round =>
    obtain ⟨k, hk, rfl, rfl, hb⟩ := hrel
    have hbw := hwW.trans (hb.mono hwW.size)
    by_cases hlt : k < ls.length
    · have hltz : (k : Int) < (ls.length : Int) := by omega
      have hk0 : (0 : Int) ≤ (k : Int) := by omega
      obtain ⟨s, hs⟩ : ∃ s, ls[k]? = some s := ⟨_, List.getElem?_eq_getElem hlt⟩
      obtain ⟨g, o, rfl, hg, hcell⟩ := HV.out.cells hlt
      obtain ⟨la, lc, p0, p1, p2, p3, p4, p5, hlr, hok⟩ := (hcell.below hg hb).six hs
      have HC := Lib.hid (refMatch_slot HF.out hok wr (HU.out.below hb) hlr)
      have hrr : roomN d M (seenAll ts (ls.take (k + 1))) = roomN d M (seenAll ts (ls.take k)) + min (slotN d M (seen ts s)) (M - roomN d M (seenAll ts (ls.take k))) := by
        have := roomN_ref (d := d) (n := M) (k := k) (seenAll_get (ts := ts) hs)
        unfold seenAll at *
        rw [← List.map_take, ← List.map_take] at this
        exact this
      have hRM : roomN d M (seenAll ts (ls.take k)) ≤ M := Nat.min_le_right _ _
      obtain ⟨R, hR⟩ : ∃ R, roomN d M (seenAll ts (ls.take k)) = R := ⟨_, rfl⟩
      rw [hR] at hrr hRM ⊢
      have HOk := Lib.hid hok
      have HCell := Lib.hid (And.intro hcell hs)
      clear hlr hok hcell hs hR
      cases hm : (seen ts s).1 with
      | false =>
        rw [hm] at HC
        have HN : Hid (roomN d M (seenAll ts (ls.take (k + 1))) = R) := Lib.hid (by
          have : slotN d M (seen ts s) = 0 := by unfold slotN; rw [hm]; rfl
          rw [hrr, this]; omega)
        clear hrr hm p0 p1 p2 p3 p4
        go_wp2_with fail
        (with_reducible refine HC.out.mono ?_)
        rintro _ wq ⟨rfl, hbq⟩
        clear HC p5
        go_wp2
        go_roundw
        case rel => exact ⟨k + 1, by omega, by go_num, by rw [HN.out], hb.trans (hbq.mono hb.size)⟩
        case measure => simp [intOf]; omega
      | true =>
        rw [hm] at HC
        have hsl : slotN d M (seen ts s) = holdN s.free d M := by unfold slotN; rw [hm]; rfl
        rw [hsl] at hrr
        have hhold := holdN_le s.free d M
        have HH := Lib.hid (fun w => (by have := refHolds_any s.free d HOk.out.free HD.out (M : Int) (M : Int) hM9 (by omega) (by split <;> omega) w; rw [cnt_hold HOk.out.free HD.out M] at this; exact this : Calls Try.prog 31 #[vec (s.free 0) (s.free 1) (s.free 2) (s.free 3), vec (d 0) (d 1) (d 2) (d 3), .int .i64 (M : Int)] w fun e w' => e = .returned (.int .i64 (holdN s.free d M : Int)) ∧ Below w.heap.size w w'))
        obtain ⟨hh, hhe⟩ : ∃ hh, holdN s.free d M = hh := ⟨_, rfl⟩
        rw [hhe] at HH hrr hhold
        unfold vec at HH
        have hwsub : IntKind.i64.wrap ((M : Int) - (R : Int)) = ((M - R : Nat) : Int) := by rw [IntKind.wrap_i64] <;> omega
        obtain ⟨D, hD⟩ : ∃ D : Nat, M - R = D := ⟨_, rfl⟩
        rw [hD] at hwsub hrr
        obtain ⟨z, hz⟩ : ∃ z, min hh D = z := ⟨_, rfl⟩
        have hmin := min_int (hh : Int) (D : Int) (z : Int) (by omega)
        rw [hz] at hrr
        have hwadd : IntKind.i64.wrap ((R : Int) + (z : Int)) = ((R + z : Nat) : Int) := by rw [IntKind.wrap_i64] <;> omega
        have HN := Lib.hid hrr
        clear hrr hm hsl hhe hD hz p0 p1 p2 p3 p4
        go_wp2_with fail
        (with_reducible refine HC.out.mono ?_)
        rintro _ wq ⟨rfl, hbq⟩
        have hb2 := hb.trans (hbq.mono hb.size)
        have hgq : g < wq.heap.size := by have := hb2.size; omega
        obtain ⟨lb, ld, r0, r1, r2, r3, r4, r5, _, _⟩ := (HCell.out.1.below hg hb2).six HCell.out.2
        obtain ⟨d0, d1, d2, d3, _⟩ := cells4R (HB.out _ hb2)
        have hwq : w.heap.size < wq.heap.size := by
          have h1 : w.heap.size < W.heap.size := by
            have := HB.out W (Below.refl _ _)
            exact (Array.getElem?_eq_some_iff.1 this).1
          have := hb2.size
          omega
        have l1 : ∀ q : Quiet.Behind wq, q.world.cell? ⟨g, o + k * 6 + 1, none⟩ = _ := Quiet.cell hgq r1
        have l2 : ∀ q : Quiet.Behind wq, q.world.cell? ⟨g, o + k * 6 + 1 + 1, none⟩ = _ := Quiet.cell hgq r2
        have l3 : ∀ q : Quiet.Behind wq, q.world.cell? ⟨g, o + k * 6 + 1 + 2, none⟩ = _ := Quiet.cell hgq r3
        have l4 : ∀ q : Quiet.Behind wq, q.world.cell? ⟨g, o + k * 6 + 1 + 3, none⟩ = _ := Quiet.cell hgq r4
        have e0 : ∀ q : Quiet.Behind wq, q.world.cell? ⟨w.heap.size, 0, none⟩ = _ := Quiet.cell hwq d0
        have e1 : ∀ q : Quiet.Behind wq, q.world.cell? ⟨w.heap.size, 1, none⟩ = _ := Quiet.cell hwq d1
        have e2 : ∀ q : Quiet.Behind wq, q.world.cell? ⟨w.heap.size, 2, none⟩ = _ := Quiet.cell hwq d2
        have e3 : ∀ q : Quiet.Behind wq, q.world.cell? ⟨w.heap.size, 3, none⟩ = _ := Quiet.cell hwq d3
        clear HC p5 r0 r1 r2 r3 r4 r5 d0 d1 d2 d3
        go_wp2_with fail
        refine Quiet.region (by kernel_rfl) (by kernel_rfl) ?_
        repeat (go_big_quiet_step (first | (go_at_call 31; (with_reducible exact Quiet.calls (HH.out _)))))
        refine wpQuiet_nil ?_
        rintro _ ⟨pq, rfl⟩
        have hq := hb2.trans (pq.below.mono hb2.size)
        generalize pq.world = ws at hq ⊢
        clear l1 l2 l3 l4 e0 e1 e2 e3
        go_wp2
        go_roundw
        case rel => exact ⟨k + 1, by omega, by go_num, by rw [HN.out, Int.natCast_add], hq⟩
        case measure => simp [intOf]; omega
    · have hltz : ¬ (k : Int) < (ls.length : Int) := by omega
      have HE : Hid (ls.take k = ls) := Lib.hid (List.take_of_length_le (by omega))
      go_wp2
      go_ret
      exact ⟨by rw [HE.out]; rfl, hbw⟩
end Go.Proofs.Ytbefnophkaepmaa.Pack

/- What the document's own best answers of any slots, selector, demand (chapter 13); of memory that was there nothing turns. -/
namespace Go.Proofs.Ytbefnophkaepmaa.Pack
open Go.RowKit Go.Proofs.Ytbefnophkaepmaa.Label Go.Proofs.Ytbefnophkaepmaa.Sel Go.Proofs.Ytbefnophkaepmaa.Vec Go.Proofs.Ytbefnophkaepmaa.Texts

/-- What the best of the first so many is, as a place and as amounts. -/
def placeOf : Option (Nat × V) → Int
  | none => -1
  | some p => (p.1 : Int)
def leastOf : Option (Nat × V) → Nat → Int
  | none => fun _ => 0
  | some p => p.2
theorem fits4_B {d f : Nat → Int} : fits4 d f = true ↔ ∀ i, i < 4 → d i ≤ f i := fits4_iff
/-- What is left of a slot, or nothing. -/
def leftOf (f d : Nat → Int) : Nat → Int := if fits4 d f = true then sub4 f d else fun _ => 0
theorem refSub_left (f d : Nat → Int) (hf : InRange f) (hd : InRange d) (w : World) :
    Calls Try.prog 28 #[.agg #[.int .u64 (f 0), .int .u64 (f 1), .int .u64 (f 2), .int .u64 (f 3)], .agg #[.int .u64 (d 0), .int .u64 (d 1), .int .u64 (d 2), .int .u64 (d 3)]] w fun e w' =>
      e = .returned (.tuple #[.agg #[.int .u64 (leftOf f d 0), .int .u64 (leftOf f d 1), .int .u64 (leftOf f d 2), .int .u64 (leftOf f d 3)], .bool (fits4 d f)]) ∧ Below w.heap.size w w' := by
  refine (refSub_any f d hf hd w).mono ?_
  rintro e w' ⟨(⟨h, rfl⟩ | ⟨h, rfl⟩), hb⟩
  · have hf4 := fits4_iff.2 h
    refine ⟨?_, hb⟩
    unfold leftOf
    rw [if_pos hf4, hf4]
    rfl
  · have hf4 : fits4 d f = false := by cases hc : fits4 d f; rfl; exact absurd (fits4_iff.1 hc) h
    refine ⟨?_, hb⟩
    unfold leftOf
    rw [hf4]
    rfl

theorem set4_heapR {w : World} {T : Nat} {t : Nat → Int} (h : w.heap[T]? = some (boxR t)) (z : Nat → Int) : (set4 T (z 0) (z 1) (z 2) (z 3) w).heap[T]? = some (boxR z) := by
  unfold boxR at *
  unfold set4
  have h1 := heap_setCell_same w T 0 _ _ (.int .u64 (z 0)) h
  have h2 := heap_setCell_same _ T 1 _ _ (.int .u64 (z 1)) h1
  have h3 := heap_setCell_same _ T 2 _ _ (.int .u64 (z 2)) h2
  have h4 := heap_setCell_same _ T 3 _ _ (.int .u64 (z 3)) h3
  rw [h4]
  rfl

set_option maxHeartbeats 4000000 in
set_option maxRecDepth 100000 in
theorem refBest_any (v u : Value) (ls : List Slot) (ts : List Tm) (d : Nat → Int) (w : World) (hv : SlRow w v ls) (hu : TRow w u ts) (hf : Sel.Fair ts) (hd : InRange d) :
    Calls Try.prog 27 #[v, u, vec (d 0) (d 1) (d 2) (d 3)] w fun e w' => e = .returned (.int .i64 (placeOf (bestTo d (seenAll ts ls) ls.length))) ∧ Below w.heap.size w w' := by
  have hl := hv.len
  obtain ⟨a, cap, rfl, _, _⟩ := hv.slice
  obtain ⟨W, hW⟩ : ∃ W, W = (w.alloc (boxR d)).alloc (boxR fun _ => 0) := ⟨_, rfl⟩
  have hwW : Below w.heap.size w W := by rw [hW]; exact ((Below.refl _ _).alloc (Nat.le_refl _) _).alloc (by simp) _
  have hWs : W.heap.size = w.heap.size + 2 := by rw [hW]; simp
  have h1W : Below (w.heap.size + 1) W W := Below.refl _ _
  have hb0 := two_boxes w d (fun _ => 0) (Below.refl _ _)
  rw [← hW] at hb0
  have HB0 := Lib.hid hb0
  have HV := Lib.hid hv
  have HU := Lib.hid hu
  have HF := Lib.hid hf
  have HD := Lib.hid hd
  have HW := Lib.hid hW
  unfold vec
  unfold boxR at HW
  clear hv hu hf hd hW hb0 h1W
  go_enter Try.func27, Try.ntmps27
  go_upto_region 3 with fail
  rw [← HW.out]
  clear HW
  go_wp2
  go_loopw [7, 9] (fun r t wr => ∃ k : Nat, k ≤ ls.length ∧ t = .int .i64 k ∧ r = .int .i64 (placeOf (bestTo d (seenAll ts ls) k)) ∧ wr.heap[w.heap.size + 1]? = some (boxR (leastOf (bestTo d (seenAll ts ls) k))) ∧ Below (w.heap.size + 1) W wr) (fun _ t _ => ls.length - (intOf t).toNat)
  case atStart => exact ⟨0, Nat.zero_le _, rfl, rfl, HB0.out.2, Below.refl _ _⟩
  case round =>
    obtain ⟨k, hk, rfl, rfl, hlo, hb⟩ := hrel
    by_cases hlt : k < ls.length
    · have hltz : (k : Int) < (ls.length : Int) := by omega
      have hk0 : (0 : Int) ≤ (k : Int) := by omega
      obtain ⟨s, hs⟩ : ∃ s, ls[k]? = some s := ⟨_, List.getElem?_eq_getElem hlt⟩
      have hbw : Below w.heap.size w wr := hwW.trans (hb.mono (by omega))
      obtain ⟨g, o, rfl, hg, hcell⟩ := HV.out.cells hlt
      obtain ⟨la, lc, p0, p1, p2, p3, p4, p5, hlr, hok⟩ := (hcell.below hg hbw).six hs
      have hWr : w.heap.size + 2 ≤ wr.heap.size := by have := hb.size; omega
      have hgr : g < wr.heap.size := by omega
      have hbx : wr.heap[w.heap.size]? = some (boxR d) := (hb.block _ (by omega)).trans HB0.out.1
      obtain ⟨d0, d1, d2, d3, _⟩ := cells4R hbx
      obtain ⟨W2, hW2⟩ : ∃ W2, W2 = World.drew (wr.alloc (boxR fun _ => 0)) := ⟨_, rfl⟩
      have h2 : Below wr.heap.size wr W2 := by rw [hW2]; exact ((Below.refl _ _).alloc (Nat.le_refl _) _).drew
      have ZW := Lib.hid (show W2.heap[wr.heap.size]? = some (boxR fun _ => 0) from by rw [hW2]; exact heap_alloc_new wr _)
      have LW := Lib.hid (show wr.heap.size < W2.heap.size from by rw [hW2]; show _ < (wr.alloc _).heap.size; rw [World.size_alloc]; omega)
      have r1 := (h2.cell (p := ⟨g, o + k * 6 + 1, none⟩) hgr).trans p1
      have r2 := (h2.cell (p := ⟨g, o + k * 6 + 1 + 1, none⟩) hgr).trans p2
      have r3 := (h2.cell (p := ⟨g, o + k * 6 + 1 + 2, none⟩) hgr).trans p3
      have r4 := (h2.cell (p := ⟨g, o + k * 6 + 1 + 3, none⟩) hgr).trans p4
      have f0 := (h2.cell (p := ⟨w.heap.size, 0, none⟩) (by show w.heap.size < _; omega)).trans d0
      have f1 := (h2.cell (p := ⟨w.heap.size, 1, none⟩) (by show w.heap.size < _; omega)).trans d1
      have f2 := (h2.cell (p := ⟨w.heap.size, 2, none⟩) (by show w.heap.size < _; omega)).trans d2
      have f3 := (h2.cell (p := ⟨w.heap.size, 3, none⟩) (by show w.heap.size < _; omega)).trans d3
      have HC1 := Lib.hid (refSub_left s.free d hok.free HD.out wr.drew)
      have HC2 := Lib.hid (refSub_left s.free d hok.free HD.out W2)
      have H2 := Lib.hid h2
      obtain ⟨z, hz⟩ : ∃ z, leftOf s.free d = z := ⟨_, rfl⟩
      obtain ⟨ft, hft⟩ : ∃ ft, fits4 d s.free = ft := ⟨_, rfl⟩
      rw [hz, hft] at HC1 HC2
      have HZ0 := Lib.hid hz
      have HFt := Lib.hid hft
      have HOk := Lib.hid hok
      have HCell := Lib.hid (And.intro hcell hs)
      have HLo := Lib.hid hlo
      have HBx := Lib.hid hbx
      rw [hW2] at r1 r2 r3 r4 f0 f1 f2 f3 HC2
      have HW2 := Lib.hid hW2
      unfold boxR at r1 r2 r3 r4 f0 f1 f2 f3 HC2 HW2
      clear hz hft hcell hs hlo hlr hok h2 hW2 p0 p5 hbx
      go_upto_region 6 with fail
      go_cut [10, 11] (fun p b wx => ∃ P, p = .pointer (some ⟨P, 0, none⟩) ∧ b = .bool ft ∧ wr.heap.size ≤ P ∧ wx.heap[P]? = some (boxR z) ∧ Below wr.heap.size wr wx)
      case first =>
        go_region_law (first
          | (go_simp; go_at_call 28; (with_reducible refine HC1.out.mono ?_); rintro e w2 ⟨rfl, hb2⟩)
          | (go_simp; go_at_call 28; (with_reducible refine HC2.out.mono ?_); rintro e w2 ⟨rfl, hb2⟩; rw [← HW2.out] at hb2; have hz := (hb2.block _ LW.out).trans ZW.out; obtain ⟨z0, z1, z2, z3, y0, y1, y2, y3⟩ := cells4R hz; have HZ := Lib.hid hz; clear hz))
        all_goals
          go_wp2_with fail
          go_meet
          first
            | exact ⟨w2.heap.size, rfl, rfl, hb2.size, heap_alloc_new w2 _, ((Below.refl _ wr).drew.trans hb2).alloc hb2.size _⟩
            | exact ⟨wr.heap.size, rfl, rfl, Nat.le_refl _, set4_heapR HZ.out z, set4_below (H2.out.trans (hb2.mono H2.out.size)) (Nat.le_refl _)⟩
      case rest =>
        obtain ⟨P, rfl, rfl, hP, hPz, hbc⟩ := hcut
        clear r1 r2 r3 r4 f0 f1 f2 f3 HC1 HC2 HW2 H2 ZW LW p1 p2 p3 p4 d0 d1 d2 d3
        have hbc1 := hb.trans (hbc.mono (by omega))
        have hstep := bestTo_succ (d := d) (seenAll_get (ts := ts) HCell.out.2)
        obtain ⟨b, hbe⟩ : ∃ b, bestTo d (seenAll ts ls) k = b := ⟨_, rfl⟩
        rw [hbe] at hstep HLo ⊢
        have HLc := Lib.hid ((hbc.block _ (by omega)).trans HLo.out)
        have hbwc : Below w.heap.size w wc := hbw.trans (hbc.mono (by omega))
        have hgc : g < wc.heap.size := by have := hbc.size; omega
        obtain ⟨la', lc', p0, p1, p2, p3, p4, p5, hlr, hok⟩ := (HCell.out.1.below hg hbwc).six HCell.out.2
        have HM := Lib.hid (refMatch_slot HF.out hok wc (HU.out.below hbwc) hlr)
        obtain ⟨m, hm⟩ : ∃ m, (seen ts s).1 = m := ⟨_, rfl⟩
        rw [hm] at HM
        have HSt := Lib.hid hstep
        have HMe := Lib.hid hm
        have HPz := Lib.hid hPz
        have hPs : P < wc.heap.size := (Array.getElem?_eq_some_iff.1 hPz).1
        clear hstep hm p0 p1 p2 p3 p4 hlr hok hPz HLo
        have stay : cand d (seen ts s) = false → Hid (bestTo d (seenAll ts ls) (k + 1) = b) := fun hc => Lib.hid (by
          rw [HSt.out]; unfold bestStep; rw [hc]; rfl)
        cases ft with
        | false =>
          have HN := stay (by unfold cand seen; rw [HFt.out]; exact Bool.and_false _)
          clear stay p5 HM
          go_wp2
          go_roundw
          case rel => exact ⟨k + 1, by omega, by go_num, by rw [HN.out], by rw [HN.out]; exact HLc.out, hbc1⟩
          case measure => simp [intOf]; omega
        | true =>
          cases m with
          | false =>
            have HN := stay (by unfold cand; rw [HMe.out]; rfl)
            clear stay
            go_wp2_with fail
            (with_reducible refine HM.out.mono ?_)
            rintro _ wd ⟨rfl, hbd⟩
            clear HM p5
            go_wp2
            go_roundw
            case rel => exact ⟨k + 1, by omega, by go_num, by rw [HN.out], by rw [HN.out]; exact (hbd.block _ (by have := hbc.size; omega)).trans HLc.out, hbc1.trans (hbd.mono (by have := hbc.size; omega))⟩
            case measure => simp [intOf]; omega
          | true =>
            have hcand : cand d (seen ts s) = true := by unfold cand; rw [HMe.out]; exact HFt.out
            have hzs : z = sub4 s.free d := by rw [← HZ0.out]; unfold leftOf; rw [if_pos HFt.out]
            have HC := Lib.hid hcand
            have HZs := Lib.hid hzs
            clear stay hcand hzs
            go_wp2_with fail
            (with_reducible refine HM.out.mono ?_)
            rintro _ wd ⟨rfl, hbd⟩
            clear HM p5
            have hds := hbd.size
            have hcs := hbc.size
            have HPd := Lib.hid ((hbd.block _ hPs).trans HPz.out)
            have HLd := Lib.hid ((hbd.block _ (by omega)).trans HLc.out)
            have hbd1 := hbc1.trans (hbd.mono (by omega))
            cases b with
            | none =>
              have HN : Hid (bestTo d (seenAll ts ls) (k + 1) = some (k, z)) := Lib.hid (by
                rw [HSt.out]; unfold bestStep; rw [if_pos HC.out, HZs.out]; rfl)
              obtain ⟨q0, q1, q2, q3, _⟩ := cells4R HPd.out
              obtain ⟨v0, v1, v2, v3, y0, y1, y2, y3⟩ := cells4R HLd.out
              have HS4 := Lib.hid (set4_heapR HLd.out z)
              have HB4 := Lib.hid (set4_below (T := w.heap.size + 1) (a := z 0) (b := z 1) (c := z 2) (d := z 3) hbd1 (Nat.le_refl _))
              unfold placeOf
              go_wp2
              go_roundw
              case rel => exact ⟨k + 1, by omega, by go_num, by rw [HN.out]; rfl, by rw [HN.out]; exact HS4.out, HB4.out⟩
              case measure => simp [intOf]; omega
            | some pr =>
              obtain ⟨j, wv⟩ := pr
              unfold leastOf at HLd
              simp only at HLd
              have hj0 : ¬ (j : Int) < 0 := by omega
              have hj0b : decide ((j : Int) < 0) = false := decide_eq_false hj0
              obtain ⟨q0, q1, q2, q3, _⟩ := cells4R HPd.out
              obtain ⟨v0, v1, v2, v3, y0, y1, y2, y3⟩ := cells4R HLd.out
              have HO := Lib.hid (refOrder_any z wv wd)
              obtain ⟨od, hod⟩ : ∃ od, ordV z wv = od := ⟨_, rfl⟩
              have hlt4 := ordV_lt (x := z) (y := wv)
              rw [hod] at HO hlt4
              unfold vec at HO
              unfold placeOf
              cases hl4 : lt4 z wv with
              | true =>
                have hneg : od < 0 := hlt4.2 hl4
                have hnegb : decide (od < 0) = true := decide_eq_true hneg
                have HN : Hid (bestTo d (seenAll ts ls) (k + 1) = some (k, z)) := Lib.hid (by
                  rw [HSt.out]; unfold bestStep; rw [if_pos HC.out]
                  show (if lt4 (sub4 s.free d) wv = true then some (k, sub4 s.free d) else some (j, wv)) = _
                  rw [← HZs.out, if_pos hl4])
                clear hl4 hod hlt4
                go_wp2_with fail
                (with_reducible refine HO.out.mono ?_)
                rintro _ we ⟨rfl, hbe2⟩
                have hes := hbe2.size
                have HLe := Lib.hid ((hbe2.block _ (by omega)).trans HLd.out)
                have HPe := Lib.hid ((hbe2.block _ (by omega)).trans HPd.out)
                have hbe1 := hbd1.trans (hbe2.mono (by omega))
                clear q0 q1 q2 q3 v0 v1 v2 v3 y0 y1 y2 y3 HO
                obtain ⟨q0, q1, q2, q3, _⟩ := cells4R HPe.out
                obtain ⟨v0, v1, v2, v3, y0, y1, y2, y3⟩ := cells4R HLe.out
                have HS4 := Lib.hid (set4_heapR HLe.out z)
                have HB4 := Lib.hid (set4_below (T := w.heap.size + 1) (a := z 0) (b := z 1) (c := z 2) (d := z 3) hbe1 (Nat.le_refl _))
                go_wp2
                go_roundw
                case rel => exact ⟨k + 1, by omega, by go_num, by rw [HN.out]; rfl, by rw [HN.out]; exact HS4.out, HB4.out⟩
                case measure => simp [intOf]; omega
              | false =>
                have hneg : ¬ od < 0 := fun h => by rw [hlt4.1 h] at hl4; cases hl4
                have hnegb : decide (od < 0) = false := decide_eq_false hneg
                have HN : Hid (bestTo d (seenAll ts ls) (k + 1) = some (j, wv)) := Lib.hid (by
                  rw [HSt.out]; unfold bestStep; rw [if_pos HC.out]
                  show (if lt4 (sub4 s.free d) wv = true then some (k, sub4 s.free d) else some (j, wv)) = _
                  rw [← HZs.out, if_neg (by rw [hl4]; simp)])
                clear hl4 hod hlt4
                go_wp2_with fail
                (with_reducible refine HO.out.mono ?_)
                rintro _ we ⟨rfl, hbe2⟩
                have hes := hbe2.size
                have HLe := Lib.hid ((hbe2.block _ (by omega)).trans HLd.out)
                have hbe1 := hbd1.trans (hbe2.mono (by omega))
                clear q0 q1 q2 q3 v0 v1 v2 v3 y0 y1 y2 y3 HO
                go_wp2
                go_roundw
                case rel => exact ⟨k + 1, by omega, by go_num, by rw [HN.out]; rfl, by rw [HN.out]; exact HLe.out, hbe1⟩
                case measure => simp [intOf]; omega
    · have hltz : ¬ (k : Int) < (ls.length : Int) := by omega
      obtain rfl : k = ls.length := by omega
      have hbw : Below w.heap.size w wr := hwW.trans (hb.mono (by omega))
      go_wp2
      go_ret
      exact ⟨rfl, hbw⟩
end Go.Proofs.Ytbefnophkaepmaa.Pack

/- What is left of slots while copies are laid: a copy of them of one's own, whose amounts are written; and what was chosen; of memory that was there nothing turns. -/
namespace Go.Proofs.Ytbefnophkaepmaa.Pack
open Go.RowKit Go.Proofs.Ytbefnophkaepmaa.Label Go.Proofs.Ytbefnophkaepmaa.Sel Go.Proofs.Ytbefnophkaepmaa.Vec Go.Proofs.Ytbefnophkaepmaa.Texts

/-- Slots in cells, their labels where they lay before. -/
def LCells (w0 w : World) (g o : Nat) (ls : List Slot) : Prop :=
  ∀ j s, ls[j]? = some s → ∃ lv, (∀ i v, (cellsS s lv)[i]? = some v → w.cell? ⟨g, o + j * 6 + i, none⟩ = some v) ∧ (∀ i, i < 6 → w.frozen? ⟨g, o + j * 6 + i, none⟩ = false) ∧ Row w0 lv s.labs ∧ s.ok
/-- A slice of them, in a block from B on. -/
def LRow (w0 w : World) (B : Nat) (v : Value) (ls : List Slot) : Prop :=
  (ls = [] ∧ ∃ a cap, v = .slice a 0 cap ∧ cap ≤ maxLen) ∨ (ls ≠ [] ∧ ∃ g cap, v = .slice (some ⟨g, 0, none⟩) ls.length cap ∧ B ≤ g ∧ g < w.heap.size ∧ ls.length ≤ cap ∧ cap ≤ maxLen ∧ LCells w0 w g 0 ls)
theorem LCells.below {w0 w w' : World} {g o : Nat} {ls : List Slot} (h : LCells w0 w g o ls) (hg : g < w.heap.size) (hb : Below w.heap.size w w') : LCells w0 w' g o ls := fun j s hj => by
  obtain ⟨lv, h1, h2, h3⟩ := h j s hj
  refine ⟨lv, fun i v hi => by rw [hb.cell (p := ⟨g, o + j * 6 + i, none⟩) hg]; exact h1 i v hi, fun i hi => ?_, h3⟩
  have := h2 i hi
  unfold World.frozen? at *
  simp only at *
  rw [hb.block g hg]; exact this
theorem LCells.keep {w0 w w' : World} {H g o : Nat} {ls : List Slot} (h : LCells w0 w g o ls) (hg : g < H) (hb : Below H w w') : LCells w0 w' g o ls := fun j s hj => by
  have he : w'.heap[g]? = w.heap[g]? := hb.block g hg
  obtain ⟨lv, h1, h2, h3⟩ := h j s hj
  refine ⟨lv, fun i v hi => ?_, fun i hi => ?_, h3⟩
  · have := h1 i v hi
    unfold World.cell? at *
    simp only at *
    rw [he]; exact this
  · have := h2 i hi
    unfold World.frozen? at *
    simp only at *
    rw [he]; exact this
theorem LRow.below {w0 w w' : World} {B : Nat} {v : Value} {ls : List Slot} (h : LRow w0 w B v ls) (hb : Below w.heap.size w w') : LRow w0 w' B v ls := by
  rcases h with h | ⟨h0, g, cap, h1, h2, h3, h4, h5, h6⟩
  · exact .inl h
  · exact .inr ⟨h0, g, cap, h1, h2, by have := hb.size; omega, h4, h5, h6.below h3 hb⟩
theorem LRow.slrow {w0 w : World} {B : Nat} {v : Value} {ls : List Slot} (h : LRow w0 w B v ls) (hb : Below w0.heap.size w0 w) : SlRow w v ls := by
  rcases h with h | ⟨h0, g, cap, h1, h2, h3, h4, h5, h6⟩
  · exact .inl h
  · refine .inr ⟨h0, g, 0, cap, h1, h3, h4, h5, fun j s hj => ?_⟩
    obtain ⟨lv, a, _, b, c⟩ := h6 j s hj
    exact ⟨lv, a, b.below hb, c⟩
/-- A copy goes to that slot. -/
def takeS (d : Nat → Int) (ls : List Slot) (j : Nat) : List Slot := match ls[j]? with
  | some s => ls.set j { s with free := sub4 s.free d }
  | none => ls
theorem takeS_some {d : Nat → Int} {ls : List Slot} {j : Nat} {s : Slot} (h : ls[j]? = some s) : takeS d ls j = ls.set j { s with free := sub4 s.free d } := by unfold takeS; rw [h]
theorem takeS_length (d : Nat → Int) (ls : List Slot) (j : Nat) : (takeS d ls j).length = ls.length := by
  unfold takeS; split
  · rw [List.length_set]
  · rfl
theorem takeS_seen (ts : List Tm) (d : Nat → Int) (ls : List Slot) (j : Nat) : seenAll ts (takeS d ls j) = takeAt d (seenAll ts ls) j := by
  unfold takeS takeAt seenAll
  rw [List.getElem?_map]
  cases h : ls[j]? with
  | none => rfl
  | some s =>
    show List.map (seen ts) (ls.set j _) = (List.map (seen ts) ls).set j _
    rw [List.map_set]
    rfl
theorem takeS_node (d : Nat → Int) (ls : List Slot) (j i : Nat) : ((takeS d ls j)[i]?).map Slot.node = (ls[i]?).map Slot.node := by
  unfold takeS
  cases h : ls[j]? with
  | none => rfl
  | some s =>
    simp only
    rw [List.getElem?_set]
    by_cases e : j = i
    · subst e
      rw [if_pos rfl, if_pos (List.getElem?_eq_some_iff.1 h).1, h]
      rfl
    · rw [if_neg e]
/-- What is left, copy by copy. -/
def leftS (d : Nat → Int) : List Nat → List Slot → List Slot
  | [], l => l
  | j :: js, l => leftS d js (takeS d l j)
theorem leftS_snoc (d : Nat → Int) (j : Nat) : ∀ (js : List Nat) (l : List Slot), leftS d (js ++ [j]) l = takeS d (leftS d js l) j
  | [], _ => rfl
  | i :: js, l => leftS_snoc d j js (takeS d l i)
theorem leftS_length (d : Nat → Int) : ∀ (js : List Nat) (l : List Slot), (leftS d js l).length = l.length
  | [], _ => rfl
  | j :: js, l => by unfold leftS; rw [leftS_length d js, takeS_length]
theorem leftS_seen (ts : List Tm) (d : Nat → Int) : ∀ (js : List Nat) (l : List Slot), seenAll ts (leftS d js l) = leftAt d js (seenAll ts l)
  | [], _ => rfl
  | j :: js, l => by unfold leftS leftAt; rw [leftS_seen ts d js, takeS_seen]
theorem leftS_node (d : Nat → Int) (i : Nat) : ∀ (js : List Nat) (l : List Slot), ((leftS d js l)[i]?).map Slot.node = (l[i]?).map Slot.node
  | [], _ => rfl
  | j :: js, l => by unfold leftS; rw [leftS_node d i js, takeS_node]
/-- The nodes that were chosen. -/
def nodesOf (ls : List Slot) (js : List Nat) : List ByteArray := js.map fun j => ((ls[j]?).map Slot.node).getD ⟨#[]⟩
theorem nodesOf_snoc (ls : List Slot) (js : List Nat) (j : Nat) : nodesOf ls (js ++ [j]) = nodesOf ls js ++ [((ls[j]?).map Slot.node).getD ⟨#[]⟩] := by unfold nodesOf; simp
theorem sub_range {f d : Nat → Int} (hf : InRange f) (hd : InRange d) (h : fits4 d f = true) : InRange (sub4 f d) := by
  intro i hi
  have a := hf i hi
  have b := hd i hi
  have c := fits4_iff.1 h i hi
  unfold sub4
  omega
/-- Four cells written, one behind another. -/
def put4 (g p : Nat) (z : Nat → Int) (w : World) : World :=
  (((w.setCell ⟨g, p, none⟩ (.int .u64 (z 0))).setCell ⟨g, p + 1, none⟩ (.int .u64 (z 1))).setCell ⟨g, p + 2, none⟩ (.int .u64 (z 2))).setCell ⟨g, p + 3, none⟩ (.int .u64 (z 3))
theorem put4_far (g p : Nat) (z : Nat → Int) (w : World) (e : Nat) (h : e < p ∨ p + 3 < e) : (put4 g p z w).cell? ⟨g, e, none⟩ = w.cell? ⟨g, e, none⟩ := by
  unfold put4
  rw [World.cell?_setCell_other _ _ _ _ (by intro hh; injection hh with _ hh; omega), World.cell?_setCell_other _ _ _ _ (by intro hh; injection hh with _ hh; omega), World.cell?_setCell_other _ _ _ _ (by intro hh; injection hh with _ hh; omega), World.cell?_setCell_other _ _ _ _ (by intro hh; injection hh with _ hh; omega)]
theorem put4_at {g p : Nat} {z : Nat → Int} {w : World} {a b c d : Value} (h0 : w.cell? ⟨g, p, none⟩ = some a) (h1 : w.cell? ⟨g, p + 1, none⟩ = some b) (h2 : w.cell? ⟨g, p + 2, none⟩ = some c) (h3 : w.cell? ⟨g, p + 3, none⟩ = some d) :
    (put4 g p z w).cell? ⟨g, p, none⟩ = some (.int .u64 (z 0)) ∧ (put4 g p z w).cell? ⟨g, p + 1, none⟩ = some (.int .u64 (z 1)) ∧ (put4 g p z w).cell? ⟨g, p + 2, none⟩ = some (.int .u64 (z 2)) ∧ (put4 g p z w).cell? ⟨g, p + 3, none⟩ = some (.int .u64 (z 3)) := by
  unfold put4
  have k0 := World.cell?_setCell_same w ⟨g, p, none⟩ (.int .u64 (z 0)) h0
  have e1 := (World.cell?_setCell_other w ⟨g, p, none⟩ ⟨g, p + 1, none⟩ (.int .u64 (z 0)) (by intro hh; injection hh with _ hh; omega)).trans h1
  have k1 := World.cell?_setCell_same _ ⟨g, p + 1, none⟩ (.int .u64 (z 1)) e1
  have e2 := (World.cell?_setCell_other (w.setCell ⟨g, p, none⟩ (.int .u64 (z 0))) ⟨g, p + 1, none⟩ ⟨g, p + 2, none⟩ (.int .u64 (z 1)) (by intro hh; injection hh with _ hh; omega)).trans ((World.cell?_setCell_other w ⟨g, p, none⟩ ⟨g, p + 2, none⟩ (.int .u64 (z 0)) (by intro hh; injection hh with _ hh; omega)).trans h2)
  have k2 := World.cell?_setCell_same _ ⟨g, p + 2, none⟩ (.int .u64 (z 2)) e2
  have e3 := (World.cell?_setCell_other ((w.setCell ⟨g, p, none⟩ (.int .u64 (z 0))).setCell ⟨g, p + 1, none⟩ (.int .u64 (z 1))) ⟨g, p + 2, none⟩ ⟨g, p + 3, none⟩ (.int .u64 (z 2)) (by intro hh; injection hh with _ hh; omega)).trans ((World.cell?_setCell_other (w.setCell ⟨g, p, none⟩ (.int .u64 (z 0))) ⟨g, p + 1, none⟩ ⟨g, p + 3, none⟩ (.int .u64 (z 1)) (by intro hh; injection hh with _ hh; omega)).trans ((World.cell?_setCell_other w ⟨g, p, none⟩ ⟨g, p + 3, none⟩ (.int .u64 (z 0)) (by intro hh; injection hh with _ hh; omega)).trans h3))
  have k3 := World.cell?_setCell_same _ ⟨g, p + 3, none⟩ (.int .u64 (z 3)) e3
  refine ⟨?_, ?_, ?_, k3⟩
  · rw [World.cell?_setCell_other _ _ _ _ (by intro hh; injection hh with _ hh; omega), World.cell?_setCell_other _ _ _ _ (by intro hh; injection hh with _ hh; omega), World.cell?_setCell_other _ _ _ _ (by intro hh; injection hh with _ hh; omega)]; exact k0
  · rw [World.cell?_setCell_other _ _ _ _ (by intro hh; injection hh with _ hh; omega), World.cell?_setCell_other _ _ _ _ (by intro hh; injection hh with _ hh; omega)]; exact k1
  · rw [World.cell?_setCell_other _ _ _ _ (by intro hh; injection hh with _ hh; omega)]; exact k2
theorem put4_frozen (g p : Nat) (z : Nat → Int) (w : World) (a : Addr) : (put4 g p z w).frozen? a = w.frozen? a := by unfold put4; simp
theorem put4_size (g p : Nat) (z : Nat → Int) (w : World) : (put4 g p z w).heap.size = w.heap.size := by unfold put4; simp
theorem put4_below {H g p : Nat} {z : Nat → Int} {w0 w : World} (h : Below H w0 w) (hg : H ≤ g) : Below H w0 (put4 g p z w) := (((h.setCell hg _).setCell hg _).setCell hg _).setCell hg _
/-- The amounts of one written, its labels where they were. -/
theorem LCells.store {w0 w : World} {g j : Nat} {ls : List Slot} {s : Slot} (h : LCells w0 w g 0 ls) (hj : ls[j]? = some s) (z : Nat → Int) (hz : InRange z) :
    LCells w0 (put4 g (j * 6 + 1) z w) g 0 (ls.set j { s with free := z }) := by
  intro i t hi
  rw [List.getElem?_set] at hi
  by_cases e : j = i
  · subst e
    rw [if_pos rfl, if_pos (List.getElem?_eq_some_iff.1 hj).1] at hi
    cases hi
    obtain ⟨lv, c, f, r, ok⟩ := h j s hj
    have c0 := c 0 _ rfl
    have c1 := c 1 _ rfl
    have c2 := c 2 _ rfl
    have c3 := c 3 _ rfl
    have c4 := c 4 _ rfl
    have c5 := c 5 _ rfl
    simp only [Nat.zero_add, Nat.add_zero] at c0 c1 c2 c3 c4 c5
    obtain ⟨k0, k1, k2, k3⟩ := put4_at (z := z) c1 c2 c3 c4
    refine ⟨lv, fun i v hv => ?_, fun i hi => by rw [put4_frozen]; exact f i hi, r, ⟨hz, ok.labs⟩⟩
    rw [Nat.zero_add]
    match i with
    | 0 => cases hv; rw [put4_far _ _ _ _ _ (by omega)]; exact c0
    | 1 => cases hv; exact k0
    | 2 => cases hv; exact k1
    | 3 => cases hv; exact k2
    | 4 => cases hv; exact k3
    | 5 => cases hv; rw [put4_far _ _ _ _ _ (by omega)]; exact c5
    | i + 6 => simp [cellsS] at hv
  · rw [if_neg e] at hi
    obtain ⟨lv, c, f, r, ok⟩ := h i t hi
    refine ⟨lv, fun x v hv => ?_, fun x hx => by rw [put4_frozen]; exact f x hx, r, ok⟩
    have hx : x < 6 := by
      have := (List.getElem?_eq_some_iff.1 hv).1
      simpa [cellsS] using this
    rw [put4_far _ _ _ _ _ (by omega)]
    exact c x v hv
theorem LRow.store {w0 w : World} {B j : Nat} {a : Option Addr} {n cap : Nat} {ls : List Slot} {s : Slot} (h : LRow w0 w B (.slice a n cap) ls) (hj : ls[j]? = some s) (z : Nat → Int) (hz : InRange z) :
    ∃ g, a = some ⟨g, 0, none⟩ ∧ B ≤ g ∧ g < w.heap.size ∧ n = ls.length ∧ LRow w0 (put4 g (j * 6 + 1) z w) B (.slice a n cap) (ls.set j { s with free := z }) ∧ LCells w0 w g 0 ls := by
  rcases h with ⟨h0, _⟩ | ⟨h0, g, cap', h1, h2, h3, h4, h5, h6⟩
  · subst h0; cases hj
  · injection h1 with e1 e2 e3
    subst e1; subst e2; subst e3
    refine ⟨g, rfl, h2, h3, rfl, .inr ⟨?_, g, cap, by rw [List.length_set], h2, by rw [put4_size]; exact h3, by rw [List.length_set]; exact h4, h5, h6.store hj z hz⟩, h6⟩
    intro hn
    have := congrArg List.length hn
    rw [List.length_set] at this
    exact h0 (List.eq_nil_of_length_eq_zero this)
end Go.Proofs.Ytbefnophkaepmaa.Pack
