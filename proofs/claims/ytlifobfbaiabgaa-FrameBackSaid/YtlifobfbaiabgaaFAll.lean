/- What frame.records and frame.All answer of any text of up to 2^46 bytes: all records, one behind another, and where they end; of memory that was there nothing turns. -/
import Derived.Test.YtlifobfbaiabgaaFNext
import Derived.RangeFuncNested
import Derived.RangeFuncBound
import Derived.RangeFuncCalls
import Derived.RangeFuncLeaves
import Derived.RangeFuncBox
import Derived.Shelf.Abstract
import Derived.Shelf.RegionOpen
import Derived.OwnWalkIn
import Derived.TacticsInMore
import Derived.LoopNIn
import Derived.LoopIn
import Derived.Maps.AppendAt
namespace Go.Proofs.Ytlifobfbaiabgaa.Frame
open Go.RowKit Go.Shelf
attribute [local go_sem] Oper.semAt_some

/-- A record as it is told: its body, and the place behind it. -/
def recE (s : ByteArray) (x : Nat × Nat) : Array Value := #[.string (s.extract x.1 x.2), .int .i64 (x.2 : Nat)]
/-- Where what has come ends. -/
def endOf (pre : List (Nat × Nat)) : Nat := (pre.getLast?.map Prod.snd).getD 0
theorem endOf_snoc (pre : List (Nat × Nat)) (x : Nat × Nat) : endOf (pre ++ [x]) = x.2 := by simp [endOf]
/-- The box that the iterator reads keeps its text. -/
def KeepsBox (B : Nat) (s : ByteArray) (W W' : World) : Prop := Boxed W B 9 (.string s) → Boxed W' B 9 (.string s)
theorem keepsBox_t {B : Nat} {s : ByteArray} {X Y Z : World} (h : KeepsBox B s X Y) (k : KeepsBox B s Y Z) : KeepsBox B s X Z := fun b => k (h b)
theorem Boxed.putObj {W : World} {B : Nat} {t : TypeId} {v : Value} (hb : Boxed W B t v) {l : Nat} {o : Obj} (o' : Obj) (h : W.heap[l]? = some o) (hc : o.isCells = false) : Boxed (W.putObj l o') B t v :=
  hb.kept (grownBy_putObj' W l o') (fun e => by
    obtain rfl : B = l := by simpa using e
    rw [show W.heap[B]? = _ from hb] at h
    cases h; cases hc)
theorem keepsBox_b {B : Nat} {s : ByteArray} (n : Nat) (W : World) (l : Nat) (o o' : Obj) (_ : n ≤ l) (h : W.heap[l]? = some o) (hc : o.isCells = false) (_ : o.isWalk = false) : KeepsBox B s W (W.putObj l o') := fun hb => Boxed.putObj hb o' h hc

/-- Each record has eight bytes at least. -/
theorem allN_len {s : List UInt8} : ∀ (f p : Nat), p ≤ s.length → 8 * (allN s f p).1.length + p ≤ s.length
  | 0, p, h => by simpa [allN] using h
  | f + 1, p, h => by
    cases hn : nextF s (p : Int) with
    | none => rw [allN_none hn]; simpa using h
    | some x =>
      obtain ⟨_, h1, h2, h3, _⟩ := next_lt (a := x.1) (b := x.2) hn
      rw [allN_some hn]
      have := allN_len f x.2 h3
      simp only [List.length_cons]
      omega
theorem allL_len (s : List UInt8) : 8 * (allL s).1.length ≤ s.length := by
  have := allN_len (s := s) (s.length + 1) 0 (Nat.zero_le _)
  unfold allL
  omega

/-- What Next hands back, part by part. -/
def bodyV (s : ByteArray) : Option (Nat × Nat) → Value
  | none => .string ⟨#[]⟩
  | some x => .string (s.extract x.1 x.2)
def nextV : Option (Nat × Nat) → Value
  | none => .int .i64 0
  | some x => .int .i64 (x.2 : Nat)
def okV : Option (Nat × Nat) → Value
  | none => .bool false
  | some _ => .bool true
theorem nextR_parts (s : ByteArray) (o : Option (Nat × Nat)) : nextR s o = .tuple #[bodyV s o, nextV o, okV o] := by cases o <;> rfl
def leftM (N : Nat) (v4 v5 : Value) : Nat := match v5 with | .bool true => N + 1 - (intOf v4).toNat | _ => 0

set_option maxRecDepth 100000 in
set_option maxHeartbeats 2000000 in
/-- The iterator's function, for every loop body that keeps the box. -/
theorem records1_in (n : Nat) (hn : 2 ≤ n) (l B : Nat) (s : ByteArray) (hs : s.size ≤ 4611686018427387904) (J Jx : List (Nat × Nat) → World → Prop)
    (hY : ∀ pre x W, J pre W → pre.length < (allL s.data.toList).1.length → YieldAt Fence.wide (n - 1) Try.prog l (recE s x) W fun e W' =>
      (e = .returned (.bool true) ∧ J (pre ++ [x]) W' ∧ KeepsBox B s W W') ∨ (e = .returned (.bool false) ∧ Jx (pre ++ [x]) W'))
    (W : World) (hB : Boxed W B 9 (.string s)) (h0 : J [] W) :
    CallsIn Fence.wide n Try.prog 23 #[.func (.yield l) #[] #[], .pointer (some ⟨B, 0, none⟩)] W fun e W' => (∃ v, e = .returned v) ∧
      ((∃ ys, ys = (allL s.data.toList).1 ∧ J ys W') ∨ (∃ pre, pre <+: (allL s.data.toList).1 ∧ Jx pre W')) := by
  have HN : Hid (∀ (p : Int), -9223372036854775808 ≤ p → p ≤ 9223372036854775807 → ∀ w, Calls Try.prog 11 #[.string s, .int .i64 p] w fun e w' => e = .returned (.tuple #[bodyV s (nextF s.data.toList p), nextV (nextF s.data.toList p), okV (nextF s.data.toList p)]) ∧ w = w') := Lib.hid fun p h1 h2 w => by
    rw [← nextR_parts]; exact next_any s hs p h1 h2 w
  have HLn := Lib.hid (size_list s)
  obtain ⟨L, hL⟩ : ∃ L, s.data.toList = L := ⟨_, rfl⟩
  rw [hL] at HN HLn hY ⊢
  clear hL
  have HY := Lib.hid hY
  clear hY
  refine callsIn_of_wp Try.func23 rfl trivial ?_ rfl
  simp only [Try.ntmps23, List.size_toArray, List.length_cons, List.length_nil, Nat.reduceAdd, Nat.reduceSub, Array.replicate_succ, Array.replicate_zero, List.push_toArray, List.append_toArray, List.nil_append, List.cons_append]
  have hc := hB.cell
  have h1 := HN.out 0 (by decide) (by decide) W
  obtain ⟨v3, h3⟩ : ∃ v, bodyV s (nextF L 0) = v := ⟨_, rfl⟩
  obtain ⟨v4, h4⟩ : ∃ v, nextV (nextF L 0) = v := ⟨_, rfl⟩
  obtain ⟨v5, h5⟩ : ∃ v, okV (nextF L 0) = v := ⟨_, rfl⟩
  rw [h3, h4, h5] at h1
  have H345 := Lib.hid (And.intro h3 (And.intro h4 h5))
  clear h3 h4 h5
  gi_wp2_with fail
  refine ⟨trivial, fun _ => by omega, (callsIn_wide.2 h1).mono ?_⟩
  rintro e w1 ⟨rfl, rfl⟩
  clear h1
  gi_wp2
  gi_loopw [3, 4, 5] (fun u3 u4 u5 wr => ∃ (pre : List (Nat × Nat)) (p f : Nat), bodyV s (nextF L (p : Int)) = u3 ∧ nextV (nextF L (p : Int)) = u4 ∧ okV (nextF L (p : Int)) = u5 ∧ s.size < p + f ∧ (pre ++ (allN L f p).1, (allN L f p).2) = allL L ∧ J pre wr ∧ Boxed wr B 9 (.string s)) (fun _ u4 u5 _ => leftM s.size u4 u5)
  case atStart => exact ⟨[], 0, s.size + 1, H345.out.1, H345.out.2.1, H345.out.2.2, by omega, by unfold allL; rw [HLn.out]; simp, h0, hB⟩
  case round =>
    clear hB h0 H345 hc
    obtain ⟨pre, p, f, rfl, rfl, rfl, hf, hall, hJ, hB⟩ := hrel
    have HA := Lib.hid hall
    clear hall
    cases hnx : nextF L (p : Int) with
    | none =>
      have HE := Lib.hid (allN_end hnx HA.out)
      dsimp only [bodyV, nextV, okV]
      gi_wp2
      refine ⟨fun _ h => (by cases h), ?_⟩
      gi_wp2
      go_end0
      exact ⟨⟨_, rfl⟩, .inl ⟨pre, by rw [HE.out], hJ⟩⟩
    | some x =>
      dsimp only [bodyV, nextV, okV]
      obtain ⟨q, hq⟩ : ∃ q, f = q + 1 := ⟨f - 1, by
        have := next_lt (a := x.1) (b := x.2) hnx
        rw [HLn.out] at this
        omega⟩
      subst hq
      have hx := next_lt (a := x.1) (b := x.2) hnx
      rw [HLn.out, Int.toNat_natCast] at hx
      have hx1 : p + 8 ≤ x.2 := by omega
      have hx2 : x.2 ≤ s.size := by omega
      have HA2 := Lib.hid (allN_step hnx HA.out)
      have hlen : pre.length < (allL L).1.length := by
        have := congrArg (fun z => z.1.length) HA2.out
        simp at this
        omega
      obtain ⟨fn, tmps, assign, body, hy, hR⟩ := HY.out pre x wr hJ hlen
      unfold recE at hy
      clear hx hnx hlen HA
      gi_wp2
      refine ⟨fun _ => by omega, hR.mono ?_⟩
      rintro e W3 (⟨rfl, hJ3, hk3⟩ | ⟨rfl, hJx3⟩)
      · have hB3 := hk3 hB
        have hc3 := hB3.cell
        have h1 := HN.out (x.2 : Nat) (by omega) (by omega) W3
        obtain ⟨a3, g3⟩ : ∃ v, bodyV s (nextF L (x.2 : Nat)) = v := ⟨_, rfl⟩
        obtain ⟨a4, g4⟩ : ∃ v, nextV (nextF L (x.2 : Nat)) = v := ⟨_, rfl⟩
        obtain ⟨a5, g5⟩ : ∃ v, okV (nextF L (x.2 : Nat)) = v := ⟨_, rfl⟩
        have HM : Hid (leftM s.size a4 a5 < leftM s.size (.int .i64 (x.2 : Nat)) (.bool true)) := Lib.hid (by
          rw [← g4, ← g5]
          cases hz : nextF L (x.2 : Nat) with
          | none => simp [leftM, okV, intOf]; omega
          | some z =>
            have := next_lt (a := z.1) (b := z.2) hz
            rw [HLn.out, Int.toNat_natCast] at this
            simp [leftM, okV, nextV, intOf]; omega)
        rw [g3, g4, g5] at h1
        have H345 := Lib.hid (And.intro g3 (And.intro g4 g5))
        clear g3 g4 g5
        gi_wp2_with fail
        refine ⟨trivial, fun _ => by omega, (callsIn_wide.2 h1).mono ?_⟩
        rintro e w1 ⟨rfl, rfl⟩
        clear h1
        gi_wp2
        go_roundw
        case rel => exact ⟨pre ++ [x], x.2, q, H345.out.1, H345.out.2.1, H345.out.2.2, by omega, HA2.out, hJ3, hB3⟩
        case measure => exact HM.out
      · gi_wp2
        go_end0
        exact ⟨⟨_, rfl⟩, .inr ⟨pre ++ [x], ⟨(allN L q x.2).1, by rw [← HA2.out]⟩, hJx3⟩⟩

/-- What records hands back is walked so: all records, in order. -/
theorem records_stops (n : Nat) (hn : 2 ≤ n) (B : Nat) (s : ByteArray) (hs : s.size ≤ 4611686018427387904) (w : World) (hlt : B < w.heap.size) (hB : Boxed w B 9 (.string s)) :
    SeqStopsK Fence.wide n Try.prog 23 #[.pointer (some ⟨B, 0, none⟩)] (recE s) (KeepsBox B s) (fun ys => ys = (allL s.data.toList).1) (fun pre => pre <+: (allL s.data.toList).1) (allL s.data.toList).1.length w := fun l J Jx W hW _ _ hY h0 =>
  records1_in n hn l B s hs J Jx hY W ((hW.block B hlt).trans hB) h0

set_option maxHeartbeats 1000000 in
theorem records_in (n : Nat) (s : ByteArray) (w : World) :
    CallsIn Fence.wide n Try.prog 22 #[.string s] w fun e w' => e = .returned (.func (.func 23) #[] #[.pointer (some ⟨w.heap.size, 0, none⟩)]) ∧ w' = w.alloc (.cells #[.string s] 9) := by
  refine callsIn_of_wp Try.func22 rfl trivial ?_ rfl
  simp only [Try.ntmps22, List.size_toArray, List.length_cons, List.length_nil, Nat.reduceAdd, Nat.reduceSub, Array.replicate_succ, Array.replicate_zero, List.push_toArray, List.append_toArray, List.nil_append, List.cons_append]
  gi_wp2
  go_ret
  exact ⟨rfl, rfl⟩
end Go.Proofs.Ytlifobfbaiabgaa.Frame
