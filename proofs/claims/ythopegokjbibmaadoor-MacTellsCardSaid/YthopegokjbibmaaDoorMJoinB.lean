import Derived.Test.YthopegokjbibmaaDoorMRow
import Derived.Test.YthopegokjbibmaaDoorMJoinA
import Derived.Test.YthopegokjbibmaaDoorMSign
import Derived.Test.YthopegokjbibmaaDoorBoxes
import Derived.Test.YthopegokjbibmaaDoorMExam
/- The first caveats of a row; of no function of the program. -/
namespace Go.Proofs.YthopegokjbibmaaDoor.Mac
open Go.RowKit

theorem Row.take {w : World} {a : Option Addr} {n cap : Nat} {ls : List Cav} (h : Row w (.slice a n cap) ls) (m : Nat) (hm : m ≤ ls.length) : Row w (.slice a m cap) (ls.take m) := by
  rcases h with ⟨rfl, a', cap', e, hc⟩ | ⟨hne, g, o, cap', e, hg, hcap, hc, hcell⟩
  · injection e with e1 e2 e3
    subst e3
    have : m = 0 := by simpa using hm
    subst this
    exact .inl ⟨rfl, _, _, rfl, hc⟩
  · injection e with e1 e2 e3
    subst e1 e2 e3
    have hl : (ls.take m).length = m := by rw [List.length_take]; omega
    by_cases hz : m = 0
    · subst hz
      exact .inl ⟨rfl, _, _, rfl, hc⟩
    · refine .inr ⟨fun hn => hz (by rw [hn] at hl; exact hl.symm), g, o, cap, by rw [hl], hg, by omega, hc, fun j x hj => ?_⟩
      rw [List.getElem?_take] at hj
      split at hj
      · exact hcell j x hj
      · simp at hj
end Go.Proofs.YthopegokjbibmaaDoor.Mac

/- A region that draws, operation by operation, in a great frame: what an operation yields is given outright, and the kernel reckons it; no operation is ever written out. Of no program. -/
namespace Go.Proofs.YthopegokjbibmaaDoor.Step
open Go Go.RowKit

/-- What operation number i does. -/
def runAt (P : Program) (ops : Array Oper) (i : Nat) (ρ : Operand → Value) (w : World) : Result Next := match ops[i]? with
  | some o => (execOp ρ o).run P w
  | none => .ok .skip w
def opAt (ops : Array Oper) (i : Nat) : Option Op := ops[i]?.map (·.op)
def dstAt (ops : Array Oper) (i : Nat) : Option (Option Tmp) := ops[i]?.map (·.dst)
def wantedAt (ops : Array Oper) (i : Nat) (t : Array Value) : Bool := match ops[i]? with
  | some o => Region.wanted o (yielded ops t)
  | none => false

section
variable {P : Program} {ops : Array Oper} {Q : Exit → Act → World → Prop} {md : Region.Mode} {S : World → Prop} {m : Nat}
theorem of_dst {i : Nat} {d : Option Tmp} (h : dstAt ops i = some d) : ∃ o, ops[i]? = some o ∧ o.dst = d := by
  unfold dstAt at h
  cases ho : ops[i]? with
  | none => rw [ho] at h; cases h
  | some o => rw [ho] at h; exact ⟨o, rfl, by simpa using h⟩
/-- Number i is taken first: it yields v wherever S holds. -/
theorem take {i : Nat} {d : Option Tmp} {v : Value} {fuel : Nat} {listed : Array Bool} {a : Act} {w : World}
    (hs : Region.noSelect ops = true) (hf : Region.free md ops listed i = true) (hr : (Region.ready md ops listed).contains i = true) (hd : dstAt ops i = some d) (hw : wantedAt ops i a.tmps = true)
    (hQ : ∀ c a w, Q (.panic c) (a.put d v) w → Q (.panic c) a w) (hS : S w) (hy : ∀ w, S w → runAt P ops i a.eval w = .ok (.value v) w)
    (h : wpAnyH P md ops Q S fuel (listed.setIfInBounds i true) (a.put d v) w) : wpAnyH P md ops Q S (fuel + 1) listed a w := by
  obtain ⟨o, ho, rfl⟩ := of_dst hd
  unfold wantedAt at hw
  unfold runAt at hy
  rw [ho] at hw
  simp only [ho] at hy
  exact wpAnyH_take ho hs hf hr hQ (Or.inl ⟨hw, hy⟩) hS h
/-- The one that may come up is a call of a function of the program. -/
theorem call {i : Nat} {d : Option Tmp} (f : FuncId) (args : Array Value) {fuel : Nat} {listed : Array Bool} {a : Act} {w : World}
    (hr : Region.ready md ops listed = [i]) (hd : dstAt ops i = some d) (hw : wantedAt ops i a.tmps = true) (hx : runAt P ops i a.eval w = .ok (.enter f args) w)
    (h : Calls P f args w fun e w' => ∃ v, e = .returned v ∧ S w' ∧ (S w' → wpAnyH P md ops Q S fuel (listed.setIfInBounds i true) (a.put d v) w')) : wpAnyH P md ops Q S (fuel + 1) listed a w := by
  obtain ⟨o, ho, rfl⟩ := of_dst hd
  unfold wantedAt at hw
  unfold runAt at hx
  rw [ho] at hw
  simp only [ho] at hx
  refine wpAnyH_ready hr (by simp) (AllReadyH.cons ho (fun K hK => ?_) AllReadyH.nil)
  rw [if_pos hw]
  unfold Oper.wp
  rw [hx]
  refine h.mono ?_
  rintro e w' ⟨v, rfl, h1, h2⟩
  exact hK.out _ _ h1 h2
/-- The same where the region ends in a store. -/
theorem takeX {i : Nat} {d : Option Tmp} {v : Value} {fuel : Nat} {listed : Array Bool} {a : Act} {w : World}
    (hs : Region.noSelect ops = true) (hf : Region.free md ops listed i = true) (hr : (Region.ready md ops listed).contains i = true) (hl : Held.waits md ops ops.size m i = true) (hc : Held.closedB md ops listed = true) (hd : dstAt ops i = some d) (hw : wantedAt ops i a.tmps = true)
    (hQ : ∀ c a w, Q (.panic c) (a.put d v) w → Q (.panic c) a w) (hS : S w) (hy : ∀ w, S w → runAt P ops i a.eval w = .ok (.value v) w)
    (h : Held.wpAnyX P md ops Q S m fuel (listed.setIfInBounds i true) (a.put d v) w) : Held.wpAnyX P md ops Q S m (fuel + 1) listed a w := by
  obtain ⟨o, ho, rfl⟩ := of_dst hd
  unfold wantedAt at hw
  unfold runAt at hy
  rw [ho] at hw
  simp only [ho] at hy
  exact Held.take ho hs hf hr hl hc hQ (Or.inl ⟨hw, hy⟩) hS h
theorem callX {i : Nat} {d : Option Tmp} (f : FuncId) (args : Array Value) {fuel : Nat} {listed : Array Bool} {a : Act} {w : World}
    (hr : Region.ready md ops listed = [i]) (hd : dstAt ops i = some d) (hw : wantedAt ops i a.tmps = true) (hx : runAt P ops i a.eval w = .ok (.enter f args) w)
    (h : Calls P f args w fun e w' => ∃ v, e = .returned v ∧ S w' ∧ (S w' → Held.wpAnyX P md ops Q S m fuel (listed.setIfInBounds i true) (a.put d v) w')) : Held.wpAnyX P md ops Q S m (fuel + 1) listed a w := by
  obtain ⟨o, ho, rfl⟩ := of_dst hd
  unfold wantedAt at hw
  unfold runAt at hx
  rw [ho] at hw
  simp only [ho] at hx
  refine Held.ready hr (by simp) (Held.Ready.cons ho (fun K hK => ?_) Held.Ready.nil)
  rw [if_pos hw]
  unfold Oper.wp
  rw [hx]
  refine h.mono ?_
  rintro e w' ⟨v, rfl, h1, h2⟩
  exact hK.out _ _ h1 h2
end
theorem run_of {P : Program} {ops : Array Oper} {i : Nat} {ρ : Operand → Value} {w : World} {op : Op} {r : Result Next} (ho : opAt ops i = some op) (h : ∀ o : Oper, o.op = op → (execOp ρ o).run P w = r) : runAt P ops i ρ w = r := by
  unfold opAt at ho
  unfold runAt
  cases h' : ops[i]? with
  | none => rw [h'] at ho; cases ho
  | some o =>
    rw [h'] at ho
    exact h o (by simpa using ho)
end Go.Proofs.YthopegokjbibmaaDoor.Step

/- What loads of tokens, caveats and their parts yield, where their cells are known; of no function of the program. -/
namespace Go.Proofs.YthopegokjbibmaaDoor.Mac
open Go.RowKit

section
variable {ops : Array Oper} {j : Nat} {ρ : Operand → Value} {x : Operand} {w : World} {b i : Nat}
theorem load_tok {ten sig : ByteArray} {a : Option Addr} {n c : Nat} (ho : Step.opAt ops j = some (.load 24 x)) (hx : ρ x = .pointer (some ⟨b, 0, none⟩))
    (h : w.cell? ⟨b, 0, none⟩ = some (.string ten) ∧ w.cell? ⟨b, 1, none⟩ = some (.slice a n c) ∧ w.cell? ⟨b, 2, none⟩ = some (.string sig)) : Step.runAt Tryd.prog ops j ρ w = .ok (.value (.agg #[.string ten, .slice a n c, .string sig])) w := by
  obtain ⟨h0, h1, h2⟩ := h
  refine Step.run_of ho fun o hop => ?_
  unfold execOp
  rw [hop]
  simp only [hx]
  go_simp
theorem load_rtok {ten sig : ByteArray} {a : Option Addr} {n c : Nat} (ho : Step.opAt ops j = some (.load 31 x)) (hx : ρ x = .pointer (some ⟨b, 0, none⟩))
    (h : w.cell? ⟨b, 0, none⟩ = some (.string ten) ∧ w.cell? ⟨b, 1, none⟩ = some (.slice a n c) ∧ w.cell? ⟨b, 2, none⟩ = some (.string sig)) : Step.runAt Tryd.prog ops j ρ w = .ok (.value (.agg #[.string ten, .slice a n c, .string sig])) w := by
  obtain ⟨h0, h1, h2⟩ := h
  refine Step.run_of ho fun o hop => ?_
  unfold execOp
  rw [hop]
  simp only [hx]
  go_simp
theorem load_str {s : ByteArray} (ho : Step.opAt ops j = some (.load 9 x)) (hx : ρ x = .pointer (some ⟨b, i, none⟩)) (h : w.cell? ⟨b, i, none⟩ = some (.string s)) : Step.runAt Tryd.prog ops j ρ w = .ok (.value (.string s)) w := by
  refine Step.run_of ho fun o hop => ?_
  unfold execOp
  rw [hop]
  simp only [hx]
  go_simp
theorem load_int {n : Int} (ho : Step.opAt ops j = some (.load 3 x)) (hx : ρ x = .pointer (some ⟨b, i, none⟩)) (h : w.cell? ⟨b, i, none⟩ = some (.int .i64 n)) : Step.runAt Tryd.prog ops j ρ w = .ok (.value (.int .i64 n)) w := by
  refine Step.run_of ho fun o hop => ?_
  unfold execOp
  rw [hop]
  simp only [hx]
  go_simp
theorem load_u64 {n : Int} (ho : Step.opAt ops j = some (.load 25 x)) (hx : ρ x = .pointer (some ⟨b, i, none⟩)) (h : w.cell? ⟨b, i, none⟩ = some (.int .u64 n)) : Step.runAt Tryd.prog ops j ρ w = .ok (.value (.int .u64 n)) w := by
  refine Step.run_of ho fun o hop => ?_
  unfold execOp
  rw [hop]
  simp only [hx]
  go_simp
variable {y : Operand}
theorem neq_str {D : ByteArray} {t : TypeId} (ho : Step.opAt ops j = some (.binOp .neq 9 x y t)) (hx : ρ x = .string D) (hy : ρ y = .string D) : Step.runAt Tryd.prog ops j ρ w = .ok (.value (.bool false)) w := by
  have e1 : (D.toList == D.toList) = true := by simp
  refine Step.run_of ho fun o hop => ?_
  unfold execOp
  rw [hop]
  simp only [hx, hy]
  go_simp
theorem neq_int {n : Int} {t : TypeId} (ho : Step.opAt ops j = some (.binOp .neq 3 x y t)) (hx : ρ x = .int .i64 n) (hy : ρ y = .int .i64 n) : Step.runAt Tryd.prog ops j ρ w = .ok (.value (.bool false)) w := by
  have e1 : (n != n) = false := by simp
  refine Step.run_of ho fun o hop => ?_
  unfold execOp
  rw [hop]
  simp only [hx, hy]
  go_simp
theorem neq_bool {n : Bool} {t : TypeId} (ho : Step.opAt ops j = some (.binOp .neq 4 x y t)) (hx : ρ x = .bool n) (hy : ρ y = .bool n) : Step.runAt Tryd.prog ops j ρ w = .ok (.value (.bool false)) w := by
  refine Step.run_of ho fun o hop => ?_
  unfold execOp
  rw [hop]
  simp only [hx, hy]
  cases n <;> go_simp
theorem eql_str {D : ByteArray} {t : TypeId} (ho : Step.opAt ops j = some (.binOp .eql 9 x y t)) (hx : ρ x = .string D) (hy : ρ y = .string D) : Step.runAt Tryd.prog ops j ρ w = .ok (.value (.bool true)) w := by
  have e1 : (D.toList == D.toList) = true := by simp
  refine Step.run_of ho fun o hop => ?_
  unfold execOp
  rw [hop]
  simp only [hx, hy]
  go_simp
theorem eql_bool {n : Bool} {t : TypeId} (ho : Step.opAt ops j = some (.binOp .eql 4 x y t)) (hx : ρ x = .bool n) (hy : ρ y = .bool n) : Step.runAt Tryd.prog ops j ρ w = .ok (.value (.bool true)) w := by
  refine Step.run_of ho fun o hop => ?_
  unfold execOp
  rw [hop]
  simp only [hx, hy]
  cases n <;> go_simp
end
end Go.Proofs.YthopegokjbibmaaDoor.Mac

/- What lies in memory, carried on from world to world: blocks, and rows of caveats. -/
namespace Go.Proofs.YthopegokjbibmaaDoor.Mac
open Go.RowKit Go.Proofs.YthopegokjbibmaaDoor.Sha
open Go.Proofs.YthopegokjbibmaaDoor.Boxes (keep)

/-- These blocks lie so. -/
def All (l : List (Nat × Obj)) (w : World) : Prop := ∀ x ∈ l, w.heap[x.1]? = some x.2
theorem All.nil (w : World) : All [] w := fun x h => by cases h
theorem All.get {l : List (Nat × Obj)} {w : World} (h : All l w) (n : Nat) {k : Nat} {o : Obj} (hx : l[n]? = some (k, o)) : w.heap[k]? = some o := h (k, o) (List.mem_of_getElem? hx)
theorem All.more {l : List (Nat × Obj)} {w w' : World} (h : All l w) (hb : Below w.heap.size w w') : All l w' := fun x hx => keep (h x hx) hb
theorem All.cons {l : List (Nat × Obj)} {w : World} {k : Nat} {o : Obj} (hk : w.heap[k]? = some o) (h : All l w) : All ((k, o) :: l) w := fun x hx => by
  rcases List.mem_cons.1 hx with rfl | hx
  · exact hk
  · exact h x hx
/-- These slices hold these caveats. -/
def AllR (l : List (Value × List Cav)) (w : World) : Prop := ∀ x ∈ l, Row w x.1 x.2
theorem AllR.nil (w : World) : AllR [] w := fun x h => by cases h
theorem AllR.get {l : List (Value × List Cav)} {w : World} (h : AllR l w) (n : Nat) {v : Value} {ls : List Cav} (hx : l[n]? = some (v, ls)) : Row w v ls := h (v, ls) (List.mem_of_getElem? hx)
theorem AllR.more {l : List (Value × List Cav)} {w w' : World} (h : AllR l w) (hb : Below w.heap.size w w') : AllR l w' := fun x hx => (h x hx).below hb
theorem AllR.cons {l : List (Value × List Cav)} {w : World} {v : Value} {ls : List Cav} (hv : Row w v ls) (h : AllR l w) : AllR ((v, ls) :: l) w := fun x hx => by
  rcases List.mem_cons.1 hx with rfl | hx
  · exact hv
  · exact h x hx
end Go.Proofs.YthopegokjbibmaaDoor.Mac

/- What is told of mac in MacTells: the walk. -/
namespace Go.Proofs.YthopegokjbibmaaDoor.macTells
open Go.RowKit Go.Proofs.YthopegokjbibmaaDoor.Sha Go.Proofs.YthopegokjbibmaaDoor.Mac
open Go.Proofs.YthopegokjbibmaaDoor.Boxes (cells3 keep cell_at)

theorem key_size (key : ByteArray) (m : Nat) (hm : m ≤ 200) : (key.extract 0 m).size ≤ 1125899906842624 := by rw [ByteArray.size_extract]; omega
/-- What both Gets tell of a place. -/
theorem both (s : ByteArray) (hs : s.size ≤ 140737488351232) (p : Int) : ∃ (xt xs : ByteArray) (lx : List Cav) (nx : Int) (bx : Bool), lx.length ≤ 8 ∧
    (∀ w, Calls Tryd.prog 13 #[.string s, .int .i64 p] w fun e w' => (∃ a n c, e = .returned (.tuple #[.agg #[.string xt, .slice a n c, .string xs], .int .i64 nx, .bool bx]) ∧ Row w' (.slice a n c) lx) ∧ Below w.heap.size w w') ∧
    ∀ w, Calls Tryd.prog 14 #[.string s, .int .i64 p] w fun e w' => (∃ a n c, e = .returned (.tuple #[.agg #[.string xt, .slice a n c, .string xs], .int .i64 nx, .bool bx]) ∧ Row w' (.slice a n c) lx) ∧ Below w.heap.size w w' := by
  cases h : getT s.data.toList p with
  | none =>
    refine ⟨⟨#[]⟩, ⟨#[]⟩, [], 0, false, by simp, fun w => ?_, fun w => ?_⟩
    · refine (get_any s (by omega) p w).mono ?_
      rintro e w' hT
      rw [h] at hT
      obtain ⟨rfl, hb⟩ := hT
      exact ⟨⟨none, 0, 0, rfl, Row.nil _⟩, hb⟩
    · refine (rgetT_any s (by omega) p w).mono ?_
      rintro e w' hT
      rw [h] at hT
      obtain ⟨rfl, hb⟩ := hT
      exact ⟨⟨none, 0, 0, rfl, Row.nil _⟩, hb⟩
  | some x =>
    obtain ⟨⟨a, b⟩, cs, q⟩ := x
    have hlt := getT_lt h
    refine ⟨s.extract a b, s.extract q (q + 32), cs, ((q + 32 : Nat) : Int), true, (getCs_lt hlt.2.1).2.1, fun w => ?_, fun w => ?_⟩
    · refine (get_any s (by omega) p w).mono ?_
      rintro e w' hT
      rw [h] at hT
      obtain ⟨⟨v, rfl, hown⟩, hb⟩ := hT
      have hrow := hown.row (getCs_lt hlt.2.1).1
      obtain ⟨a', c, rfl, _⟩ := hown.slice
      exact ⟨⟨a', _, c, rfl, hrow⟩, hb⟩
    · refine (rgetT_any s (by omega) p w).mono ?_
      rintro e w' hT
      rw [h] at hT
      obtain ⟨⟨v, rfl, hrow⟩, hb⟩ := hT
      have hr := hrow
      obtain ⟨a', c, rfl, _⟩ := hr.slice
      exact ⟨⟨a', _, c, rfl, hrow⟩, hb⟩

set_option maxHeartbeats 8000000 in
set_option maxRecDepth 100000 in
theorem walk (key0 : ByteArray) (hk0 : key0.size ≤ 140737488351232) (s : ByteArray) (hs : s.size ≤ 140737488351232) (ten : ByteArray) (v : Value) (ls0 : List Cav) (sig : ByteArray) (ht : ten.size ≤ 140737488351232) (hsg : sig.size ≤ 140737488351232) (c : Cav) (hc : Mac.Fair c) (r0 : Int) (hr0 : 0 ≤ r0) (hr1 : r0 ≤ 18446744073709551615) (u0 : Int) (hu0 : 0 ≤ u0) (_hu1 : u0 ≤ 18446744073709551615) (at0 : Int) (_h0 : -9223372036854775808 ≤ at0) (_h1 : at0 ≤ 9223372036854775807) (w : World) (hR : Roots w) (hv : Row w v ls0) :
    Calls Tryd.prog 3 #[.string key0, .string s, .agg #[.string ten, v, .string sig], Mac.val c, .int .u64 r0, .int .u64 u0, .int .i64 at0] w fun e w' => e = .returned (.bool true) ∧ Below w.heap.size w w' := by
  obtain ⟨r, rfl⟩ := Int.eq_ofNat_of_zero_le hr0
  obtain ⟨u, rfl⟩ := Int.eq_ofNat_of_zero_le hu0
  have hr64 : r < 18446744073709551616 := by omega
  obtain ⟨c1, cn⟩ := c
  obtain ⟨a, cap, rfl, hcap, _⟩ := hv.slice
  obtain ⟨m, hmm⟩ : ∃ m, m = min key0.size 200 := ⟨_, rfl⟩
  have hmin : min (key0.size : Int) 200 = (m : Int) := by omega
  have hmc : (m : Int) ≤ (key0.size : Int) := by omega
  have hks := key_size key0 m (by omega)
  obtain ⟨key, hkey⟩ : ∃ key, key0.extract 0 m = key := ⟨_, rfl⟩
  rw [hkey] at hks
  obtain ⟨q, hqq⟩ : ∃ q, q = min ls0.length 12 := ⟨_, rfl⟩
  have hminq : min (ls0.length : Int) 12 = (q : Int) := by omega
  have hqc : (q : Int) ≤ (cap : Int) := by omega
  have hvt := hv.take q (by omega)
  have hll : (ls0.take q).length = q := by rw [List.length_take]; omega
  have hq12 : q ≤ 12 := by omega
  obtain ⟨ls, hls⟩ : ∃ ls, ls0.take q = ls := ⟨_, rfl⟩
  rw [hls] at hvt hll
  have HLen := Lib.hid hll
  have HFc := Lib.hid hc
  have HFls := Lib.hid hvt.fair
  have HFsn : Hid (∀ y ∈ ls ++ [(c1, cn)], Mac.Fair y) := Lib.hid fun y hy => by
    rcases List.mem_append.1 hy with h | h
    · exact hvt.fair y h
    · rw [List.mem_singleton] at h; rw [h]; exact hc
  have HF1 : Hid (∀ y ∈ [(c1, cn)], Mac.Fair y) := Lib.hid fun y hy => by rw [List.mem_singleton] at hy; rw [hy]; exact hc
  have HR := Lib.hid hR
  obtain ⟨xt, xs, lx, nx, bx, hlx, hgx, hgy⟩ := both s hs at0
  have HGX := Lib.hid hgx
  have HGY := Lib.hid hgy
  have HLX := Lib.hid hlx
  obtain ⟨S3, hS3⟩ : ∃ S, str (signL sig.data.toList (putC (c1, cn))) = S := ⟨_, rfl⟩
  obtain ⟨S0, hS0⟩ : ∃ S, str (signL key.data.toList ten.data.toList) = S := ⟨_, rfl⟩
  obtain ⟨SM, hSM⟩ : ∃ S, str (signL S0.data.toList (putC (c1, cn))) = S := ⟨_, rfl⟩
  have hS0z : S0.size ≤ 1125899906842624 := by rw [← hS0, str_size, signL_len]; omega
  have hSMz : SM.size ≤ 1125899906842624 := by rw [← hSM, str_size, signL_len]; omega
  obtain ⟨D, hD⟩ : ∃ D, str (signL key.data.toList s.data.toList) = D := ⟨_, rfl⟩
  -- what is called
  have CRef : Hid (∀ (ten sig : ByteArray) (v : Value) (l : List Cav) (w : World), Row w v l → l.length ≤ 100 → (∀ y ∈ l, Mac.Fair y) → Calls Tryd.prog 10 #[.agg #[.string ten, v, .string sig]] w fun e w' => (∃ b c, e = .returned (.agg #[.string ten, .slice b l.length c, .string sig]) ∧ Row w' (.slice b l.length c) l) ∧ Below w.heap.size w w') := Lib.hid fun ten sig v l w hv hl hf => by
    refine (refT_any ten sig v l w hv (by omega)).mono ?_
    rintro e w' ⟨⟨x, rfl, hown⟩, hb⟩
    have hrow := hown.row hf
    obtain ⟨b, c, rfl, _⟩ := hown.slice
    exact ⟨⟨b, c, rfl, hrow⟩, hb⟩
  have CNar : Hid (∀ (w : World) (v : Value), Roots w → Row w v ls → Calls Tryd.prog 11 #[.agg #[.string ten, v, .string sig], .agg #[.int .i64 c1, .int .u64 (cn : Int)]] w fun e w' => (∃ b c, e = .returned (.agg #[.string ten, .slice b (q + 1) c, .string S3]) ∧ Row w' (.slice b (q + 1) c) (ls ++ [(c1, cn)])) ∧ Below w.heap.size w w') := Lib.hid fun w v hR hv => by
    rw [← hS3]
    refine (narrow_any ten sig v ls (c1, cn) HFc.out (by omega) w hR hv (by omega)).mono ?_
    rintro e w' ⟨⟨x, rfl, hown⟩, hb⟩
    have hrow := hown.row HFsn.out
    obtain ⟨b, c, rfl, _⟩ := hown.slice
    rw [List.length_append, hll] at hrow ⊢
    exact ⟨⟨b, c, rfl, hrow⟩, hb⟩
  have CRNar : Hid (∀ (w : World) (v : Value), Row w v ls → Calls Tryd.prog 16 #[.agg #[.string ten, v, .string sig], .agg #[.int .i64 c1, .int .u64 (cn : Int)]] w fun e w' => (∃ b c, e = .returned (.agg #[.string ten, .slice b (q + 1) c, .string S3]) ∧ Row w' (.slice b (q + 1) c) (ls ++ [(c1, cn)])) ∧ Below w.heap.size w w') := Lib.hid fun w v hv => by
    rw [← hS3]
    refine (rnarrow_any ten sig v ls (c1, cn) HFc.out (by omega) w hv (by omega)).mono ?_
    rintro e w' ⟨⟨x, rfl, hown⟩, hb⟩
    have hrow := hown.row HFsn.out
    obtain ⟨b, c, rfl, _⟩ := hown.slice
    rw [List.length_append, hll] at hrow ⊢
    exact ⟨⟨b, c, rfl, hrow⟩, hb⟩
  have CNew : Hid (∀ w, Roots w → Calls Tryd.prog 12 #[.string key, .string ten] w fun e w' => e = .returned (.agg #[.string ten, .slice none 0 0, .string S0]) ∧ Below w.heap.size w w') := Lib.hid fun w hR => by rw [← hS0]; exact new_any key ten hks (by omega) w hR
  have CRNew : Hid (∀ w, Calls Tryd.prog 19 #[.string key, .string ten] w fun e w' => e = .returned (.agg #[.string ten, .slice none 0 0, .string S0]) ∧ Below w.heap.size w w') := Lib.hid fun w => by rw [← hS0]; exact rnew_any key ten hks (by omega) w
  have CNarM : Hid (∀ w, Roots w → Calls Tryd.prog 11 #[.agg #[.string ten, .slice none 0 0, .string S0], .agg #[.int .i64 c1, .int .u64 (cn : Int)]] w fun e w' => (∃ b c, e = .returned (.agg #[.string ten, .slice b 1 c, .string SM]) ∧ Mine w' w.heap.size (.slice b 1 c) [(c1, cn)]) ∧ Below w.heap.size w w') := Lib.hid fun w hR => by
    rw [← hSM]
    refine (narrow_any ten S0 _ [] (c1, cn) HFc.out hS0z w hR (Row.nil w) (by simp)).mono ?_
    rintro e w' ⟨⟨x, rfl, hown⟩, hb⟩
    have hown' := hown
    obtain ⟨b, c, rfl, _⟩ := hown.slice
    exact ⟨⟨b, c, rfl, hown'⟩, hb⟩
  have CSame : Hid (∀ (ten sig : ByteArray) (v u : Value) (l : List Cav) (w : World), l.length ≤ 100 → Row w v l → Row w u l → Calls Tryd.prog 15 #[.agg #[.string ten, v, .string sig], .agg #[.string ten, u, .string sig]] w fun e w' => e = .returned (.bool true) ∧ Below w.heap.size w w') := Lib.hid fun ten sig v u l w hl hv hu => sameT_yes ten sig v u l w hv hu (by omega)
  have CSign : Hid (∀ w, Roots w → Calls Tryd.prog 17 #[.string key, .string s] w fun e w' => e = .returned (.string D) ∧ Below w.heap.size w w') := Lib.hid fun w hR => by rw [← hD]; exact sign_any key s hks (by omega) w hR
  have CRSign : Hid (∀ w, Calls Tryd.prog 18 #[.string key, .string s] w fun e w' => e = .returned (.string D) ∧ Below w.heap.size w w') := Lib.hid fun w => by rw [← hD]; exact rsign_any key s hks (by omega) w
  obtain ⟨ck, hck⟩ : ∃ b, checkL key.data.toList ten.data.toList ls sig.data.toList = b := ⟨_, rfl⟩
  obtain ⟨cm, hcm⟩ : ∃ b, checkL key.data.toList ten.data.toList [(c1, cn)] SM.data.toList = b := ⟨_, rfl⟩
  obtain ⟨al, hal⟩ : ∃ b, allowsL ls r u = b := ⟨_, rfl⟩
  obtain ⟨PT, hPT⟩ : ∃ b, str (putT ten.data.toList ls sig.data.toList) = b := ⟨_, rfl⟩
  obtain ⟨PM, hPM⟩ : ∃ b, str (putT ten.data.toList [(c1, cn)] SM.data.toList) = b := ⟨_, rfl⟩
  have CCheck : Hid (∀ w v, Roots w → Row w v ls → Calls Tryd.prog 20 #[.string key, .agg #[.string ten, v, .string sig]] w fun e w' => e = .returned (.bool ck) ∧ Below w.heap.size w w') := Lib.hid fun w v hR hv => by rw [← hck]; exact check_any key ten sig v ls hks (by omega) w hR hv hv.len
  have CRCheck : Hid (∀ w v, Row w v ls → Calls Tryd.prog 21 #[.string key, .agg #[.string ten, v, .string sig]] w fun e w' => e = .returned (.bool ck) ∧ Below w.heap.size w w') := Lib.hid fun w v hv => by rw [← hck]; exact rcheck_any key ten sig v ls hks (by omega) w hv
  have CCheckM : Hid (∀ w v, Roots w → Row w v [(c1, cn)] → Calls Tryd.prog 20 #[.string key, .agg #[.string ten, v, .string SM]] w fun e w' => e = .returned (.bool cm) ∧ Below w.heap.size w w') := Lib.hid fun w v hR hv => by rw [← hcm]; exact check_any key ten SM v _ hks (by omega) w hR hv hv.len
  have CRCheckM : Hid (∀ w v, Row w v [(c1, cn)] → Calls Tryd.prog 21 #[.string key, .agg #[.string ten, v, .string SM]] w fun e w' => e = .returned (.bool cm) ∧ Below w.heap.size w w') := Lib.hid fun w v hv => by rw [← hcm]; exact rcheck_any key ten SM v _ hks (by omega) w hv
  have CAllows : Hid (∀ w v, Row w v ls → Calls Tryd.prog 22 #[.agg #[.string ten, v, .string sig], .int .u64 (r : Int), .int .u64 (u : Int)] w fun e w' => e = .returned (.bool al) ∧ Below w.heap.size w w') := Lib.hid fun w v hv => by rw [← hal]; exact allows_any ten v ls sig r u hr64 w hv hv.len
  have CRAllows : Hid (∀ w v, Row w v ls → Calls Tryd.prog 23 #[.agg #[.string ten, v, .string sig], .int .u64 (r : Int), .int .u64 (u : Int)] w fun e w' => e = .returned (.bool al) ∧ Below w.heap.size w w') := Lib.hid fun w v hv => by rw [← hal]; exact rallows_any ten v ls sig r u hr64 w hv
  have CPut : Hid (∀ w v, Row w v ls → Calls Tryd.prog 24 #[.agg #[.string ten, v, .string sig]] w fun e w' => e = .returned (.string PT) ∧ Below w.heap.size w w') := Lib.hid fun w v hv => by rw [← hPT]; exact put_any ten v ls sig w hv hv.len
  have CRPut : Hid (∀ w v, Row w v ls → Calls Tryd.prog 25 #[.agg #[.string ten, v, .string sig]] w fun e w' => e = .returned (.string PT) ∧ Below w.heap.size w w') := Lib.hid fun w v hv => by rw [← hPT]; exact rputT_any ten v ls sig (by omega) w hv
  have CPutM : Hid (∀ w v, Row w v [(c1, cn)] → Calls Tryd.prog 24 #[.agg #[.string ten, v, .string SM]] w fun e w' => e = .returned (.string PM) ∧ Below w.heap.size w w') := Lib.hid fun w v hv => by rw [← hPM]; exact put_any ten v _ SM w hv hv.len
  have CRPutM : Hid (∀ w v, Row w v [(c1, cn)] → Calls Tryd.prog 25 #[.agg #[.string ten, v, .string SM]] w fun e w' => e = .returned (.string PM) ∧ Below w.heap.size w w') := Lib.hid fun w v hv => by rw [← hPM]; exact rputT_any ten v _ SM (by omega) w hv
  have hb0 : Below w.heap.size w ((w.alloc (.cells #[.string ten, .slice a ls0.length cap, .string sig] 24)).alloc (.cells #[.int .i64 c1, .int .u64 (cn : Int)] 27)) := ((Below.refl _ _).alloc (Nat.le_refl _) _).alloc (by simp) _
  have hx9 : ((w.alloc (.cells #[.string ten, .slice a ls0.length cap, .string sig] 24)).alloc (.cells #[.int .i64 c1, .int .u64 (cn : Int)] 27)).heap[w.heap.size]? = some (.cells #[.string ten, .slice a ls0.length cap, .string sig] 24) := (heap_alloc_old _ _ (by simp)).trans (heap_alloc_new _ _)
  have hx10 : ((w.alloc (.cells #[.string ten, .slice a ls0.length cap, .string sig] 24)).alloc (.cells #[.int .i64 c1, .int .u64 (cn : Int)] 27)).heap[w.heap.size + 1]? = some (.cells #[.int .i64 c1, .int .u64 (cn : Int)] 27) := by
    have := heap_alloc_new (w.alloc (.cells #[.string ten, .slice a ls0.length cap, .string sig] 24)) (.cells #[.int .i64 c1, .int .u64 (cn : Int)] 27)
    rwa [World.size_alloc] at this
  have HVt := Lib.hid hvt
  have HX := Lib.hid (examples_any _ (hR.below hb0))
  clear hR hv hvt hls hmm hqq hc hll hS3 hS0 hSM hD hck hcm hal hPT hPM hgx hgy hlx hS0z hSMz hks hcap hr64 hk0 hs ht hsg hr0 hr1 hu0 _hu1 _h0 _h1
  unfold Mac.val
  go_enter Tryd.func3, Tryd.ntmps3
  go_wp2_with fail
  with_reducible refine HX.out.mono ?_
  rintro e w1 ⟨rfl, b1⟩
  have hb1 := hb0.trans (b1.mono hb0.size)
  have x9 := keep hx9 b1
  have x10 := keep hx10 b1
  obtain ⟨p0, p1, p2, f0, f1, f2⟩ := cells3 x9
  have hW1 : Below w.heap.size w (w1.setCell ⟨w.heap.size, 1, none⟩ (.slice a q cap)) := hb1.setCell (Nat.le_refl _) _
  have HA1 : Hid (All [(w.heap.size, .cells #[.string ten, .slice a q cap, .string sig] 24), (w.heap.size + 1, .cells #[.int .i64 c1, .int .u64 (cn : Int)] 27)] (w1.setCell ⟨w.heap.size, 1, none⟩ (.slice a q cap))) := Lib.hid (((All.nil _).cons (set_else x10 (by omega))).cons (cell_set1 x9))
  have HR1 : Hid (AllR [(.slice a q cap, ls)] (w1.setCell ⟨w.heap.size, 1, none⟩ (.slice a q cap))) := Lib.hid ((AllR.nil _).cons (HVt.out.below hW1))
  have HB1 := Lib.hid hW1
  obtain ⟨r0, r1, r2, _⟩ := cells3 (HA1.out.get 0 rfl)
  clear hb0 hx9 hx10 b1 hb1 x9 x10 hW1 HX
  go_wp2_with fail
  obtain ⟨W1, hW1⟩ : ∃ W, W = w1.setCell ⟨w.heap.size, 1, none⟩ (.slice a q cap) := ⟨_, rfl⟩
  rw [← hW1] at HA1 HR1 HB1 ⊢
  clear hW1 p0 p1 p2 f0 f1 f2 r0 r1 r2 hmin hmc hminq hqc hkey HVt
  with_reducible refine (CRef.out _ _ _ _ _ (HR1.out.get 0 rfl) (by have := HLen.out; omega) HFls.out).mono ?_
  rw [HLen.out]
  rintro e w2 ⟨⟨ua, uc, rfl, hrow2⟩, b2⟩
  have bA : Below w2.heap.size w2 (w2.alloc (.cells #[.string ten, .slice ua q uc, .string sig] 31)) := (Below.refl _ _).alloc (Nat.le_refl _) _
  have b12 := b2.trans (bA.mono b2.size)
  have HA2 := Lib.hid ((HA1.out.more b12).cons (heap_alloc_new w2 (.cells #[.string ten, .slice ua q uc, .string sig] 31)))
  have HR2 := Lib.hid ((HR1.out.more b12).cons (hrow2.below bA))
  have HB2 := Lib.hid (HB1.out.trans (b12.mono HB1.out.size))
  obtain ⟨r0, r1, r2, _⟩ := cells3 (HA2.out.get 1 rfl)
  obtain ⟨r3, r4, _⟩ := cells2 (HA2.out.get 2 rfl)
  clear hrow2 b2 bA b12 HA1 HR1 HB1
  go_wp2_with fail
  obtain ⟨R, hRz⟩ : ∃ R, R = w2.heap.size := ⟨_, rfl⟩
  obtain ⟨W2, hW2⟩ : ∃ W, W = w2.alloc (.cells #[.string ten, .slice ua q uc, .string sig] 31) := ⟨_, rfl⟩
  rw [← hW2] at HA2 HR2 HB2 ⊢
  rw [← hRz] at HA2 ⊢
  clear hW2 hRz r0 r1 r2 r3 r4
  with_reducible refine (CNar.out _ _ (HR.out.below HB2.out) (HR2.out.get 1 rfl)).mono ?_
  rintro e w3 ⟨⟨na, nc, rfl, hrow3⟩, b3⟩
  have bA : Below w3.heap.size w3 (w3.alloc (.cells #[.string ten, .slice na (q + 1) nc, .string S3] 24)) := (Below.refl _ _).alloc (Nat.le_refl _) _
  have b13 := b3.trans (bA.mono b3.size)
  have HA3 := Lib.hid ((HA2.out.more b13).cons (heap_alloc_new w3 (.cells #[.string ten, .slice na (q + 1) nc, .string S3] 24)))
  have HR3 := Lib.hid ((HR2.out.more b13).cons (hrow3.below bA))
  have HB3 := Lib.hid (HB2.out.trans (b13.mono HB2.out.size))
  clear hrow3 b3 bA b13 HA2 HR2 HB2
  go_upto_region 8 with fail
  obtain ⟨N, hNz⟩ : ∃ N, N = w3.heap.size := ⟨_, rfl⟩
  obtain ⟨W3, hW3⟩ : ∃ W, W = w3.alloc (.cells #[.string ten, .slice na (q + 1) nc, .string S3] 24) := ⟨_, rfl⟩
  rw [← hW3] at HA3 HR3 HB3 ⊢
  rw [← hNz] at HA3 ⊢
  clear hW3 hNz
  have HZ3 : Hid (∀ z, Below W3.heap.size W3 z → z.cell? ⟨w.heap.size, 0, none⟩ = some (.string ten) ∧ z.cell? ⟨w.heap.size + 1, 0, none⟩ = some (.int .i64 c1) ∧ z.cell? ⟨w.heap.size + 1, 1, none⟩ = some (.int .u64 (cn : Int))) := Lib.hid fun z hz => ⟨(cells3 ((HA3.out.more hz).get 2 rfl)).1, (cells2 ((HA3.out.more hz).get 3 rfl)).1, (cells2 ((HA3.out.more hz).get 3 rfl)).2.1⟩
  have HRt3 : Hid (∀ z, Below W3.heap.size W3 z → Roots z) := Lib.hid fun z hz => HR.out.below (HB3.out.trans (hz.mono HB3.out.size))
  have hD : Below W3.heap.size W3 W3.drew := (Below.refl _ _).drew
  have hDb : Below W3.heap.size W3 (W3.alloc (.cells #[.string ⟨#[]⟩, .slice none 0 0, .string ⟨#[]⟩] 24)).drew := ((Below.refl _ _).alloc (Nat.le_refl _) _).drew
  go_cut [18] (fun p wx => ∃ M ma mc, p = .pointer (some ⟨M, 0, none⟩) ∧ wx.heap[M]? = some (.cells #[.string ten, .slice ma 1 mc, .string SM] 24) ∧ Row wx (.slice ma 1 mc) [(c1, cn)] ∧ Below W3.heap.size W3 wx)
  case first =>
    refine Held.start (m := 7) (S := fun x => x.cell? ⟨w.heap.size, 0, none⟩ = some (.string ten) ∧ x.cell? ⟨w.heap.size + 1, 0, none⟩ = some (.int .i64 c1) ∧ x.cell? ⟨w.heap.size + 1, 1, none⟩ = some (.int .u64 (cn : Int))) (by kernel_rfl) (HZ3.out _ hD) (fun hHeld => ?_)
    (refine Held.take (i := 0) (v := ?_) rfl (by kernel_rfl) (by kernel_rfl) (by kernel_rfl) (by kernel_rfl) (by kernel_rfl) (fun _ _ _ h => h) (Or.inl ⟨by rfl, ?_⟩) hHeld ?_; rotate_left; focus (intro w hSw; (try dsimp only at hSw); go_simp; try with_reducible rfl))
    (refine Held.take (i := 1) (v := ?_) rfl (by kernel_rfl) (by kernel_rfl) (by kernel_rfl) (by kernel_rfl) (by kernel_rfl) (fun _ _ _ h => h) (Or.inl ⟨by rfl, ?_⟩) hHeld ?_; rotate_left; focus (intro w hSw; (try dsimp only at hSw); go_simp; try with_reducible rfl))
    (refine Held.take (i := 2) (v := ?_) rfl (by kernel_rfl) (by kernel_rfl) (by kernel_rfl) (by kernel_rfl) (by kernel_rfl) (fun _ _ _ h => h) (Or.inl ⟨by rfl, ?_⟩) hHeld ?_; rotate_left; focus (intro w hSw; (try dsimp only at hSw); go_simp; try with_reducible rfl))
    (refine Held.take (i := 4) (v := ?_) rfl (by kernel_rfl) (by kernel_rfl) (by kernel_rfl) (by kernel_rfl) (by kernel_rfl) (fun _ _ _ h => h) (Or.inl ⟨by rfl, ?_⟩) hHeld ?_; rotate_left; focus (intro w hSw; (try dsimp only at hSw); go_simp; try with_reducible rfl))
    refine Held.ready (rs := [3, 6]) (by kernel_rfl) (by simp) ?_
    refine Held.Ready.cons rfl (fun K hK => ?_) (Held.Ready.cons rfl (fun K hK => ?_) Held.Ready.nil)
    · (go_simp; go_at_call 12; (with_reducible refine (CNew.out _ (HRt3.out _ hD)).mono ?_); rintro e w5 ⟨rfl, hb5⟩; have hd5 := hD.trans (hb5.mono hD.size); refine hK.out _ _ (HZ3.out _ hd5) (fun hHeld => ?_); clear hK K)
      refine Held.ready (rs := [5, 6]) (by kernel_rfl) (by simp) ?_
      refine Held.Ready.cons rfl (fun K hK => ?_) (Held.Ready.cons rfl (fun K hK => ?_) Held.Ready.nil)
      · (go_simp; go_at_call 11; (with_reducible refine (CNarM.out _ (HRt3.out _ hd5)).mono ?_); rintro e w6 ⟨⟨ma, mc, rfl, hown6⟩, hb6⟩; have hd6 := hd5.trans (hb6.mono hd5.size); refine hK.out _ _ (HZ3.out _ hd6) (fun hHeld => ?_); clear hK K)
        (refine Held.ready (rs := [6]) (by kernel_rfl) (by simp) ?_; refine Held.Ready.cons rfl (fun K hK => ?_) Held.Ready.nil; go_simp; refine hK.out _ _ (HZ3.out _ (hd6.alloc hd6.size _)) (fun hHeld => ?_); clear hK K)
        (refine Held.ready (rs := [7]) (by kernel_rfl) (by simp) ?_; refine Held.Ready.last rfl (fun K hK => ?_); go_simp; refine hK.out _ _ ?_; clear hK K)
        refine Held.done (by kernel_rfl) ?_ _
        go_wp2_with fail
        go_meet
        exact ⟨w6.heap.size, ma, mc, rfl, heap_alloc_new _ _, (hown6.row HF1.out).below ((Below.refl _ _).alloc (Nat.le_refl _) _), hd6.alloc hd6.size _⟩
      · (go_simp; refine hK.out _ _ (HZ3.out _ (hd5.alloc hd5.size _)) (fun hHeld => ?_); clear hK K)
        (refine Held.ready (rs := [5]) (by kernel_rfl) (by simp) ?_; refine Held.Ready.cons rfl (fun K hK => ?_) Held.Ready.nil; go_simp; go_at_call 11; (with_reducible refine (CNarM.out _ (HRt3.out _ (hd5.alloc hd5.size _))).mono ?_); rintro e w6 ⟨⟨ma, mc, rfl, hown6⟩, hb6⟩; have hd5a := hd5.alloc hd5.size (.cells #[.string ⟨#[]⟩, .slice none 0 0, .string ⟨#[]⟩] 24); have hd6 := hd5a.trans (hb6.mono hd5a.size); have hbk := keep (heap_alloc_new w5 (.cells #[.string ⟨#[]⟩, .slice none 0 0, .string ⟨#[]⟩] 24)) hb6; obtain ⟨g0, g1, g2, f0, f1, f2⟩ := cells3 hbk; refine hK.out _ _ (HZ3.out _ hd6) (fun hHeld => ?_); clear hK K)
        (refine Held.ready (rs := [7]) (by kernel_rfl) (by simp) ?_; refine Held.Ready.last rfl (fun K hK => ?_); go_simp; refine hK.out _ _ ?_; clear hK K)
        refine Held.done (by kernel_rfl) ?_ _
        have hd7 := Boxes.set3_below (T := w5.heap.size) (a := .string ten) (b := .slice ma 1 mc) (c := .string SM) hd6 hd5.size
        have hbx := Boxes.set3_box hbk (.string ten) (.slice ma 1 mc) (.string SM)
        have hrow7 := (((hown6.set (T := w5.heap.size) (i := 0) (u := .string ten) (by simp)).set (T := w5.heap.size) (i := 1) (u := .slice ma 1 mc) (by simp)).set (T := w5.heap.size) (i := 2) (u := .string SM) (by simp)).row HF1.out
        go_wp2_with fail
        go_meet
        exact ⟨w5.heap.size, ma, mc, rfl, hbx, hrow7, hd7⟩
    · (go_simp; refine hK.out _ _ (HZ3.out _ (hD.alloc hD.size _)) (fun hHeld => ?_); clear hK K)
      (refine Held.ready (rs := [3]) (by kernel_rfl) (by simp) ?_; refine Held.Ready.cons rfl (fun K hK => ?_) Held.Ready.nil; go_simp; go_at_call 12; (with_reducible refine (CNew.out _ (HRt3.out _ hDb)).mono ?_); rintro e w5 ⟨rfl, hb5⟩; have hd5 := hDb.trans (hb5.mono hDb.size); have hbk5 := keep (w := (W3.alloc (.cells #[.string ⟨#[]⟩, .slice none 0 0, .string ⟨#[]⟩] 24)).drew) (heap_alloc_new W3 (.cells #[.string ⟨#[]⟩, .slice none 0 0, .string ⟨#[]⟩] 24)) hb5; refine hK.out _ _ (HZ3.out _ hd5) (fun hHeld => ?_); clear hK K)
      (refine Held.ready (rs := [5]) (by kernel_rfl) (by simp) ?_; refine Held.Ready.cons rfl (fun K hK => ?_) Held.Ready.nil; go_simp; go_at_call 11; (with_reducible refine (CNarM.out _ (HRt3.out _ hd5)).mono ?_); rintro e w6 ⟨⟨ma, mc, rfl, hown6⟩, hb6⟩; have hd6 := hd5.trans (hb6.mono hd5.size); have hbk := keep hbk5 hb6; obtain ⟨g0, g1, g2, f0, f1, f2⟩ := cells3 hbk; refine hK.out _ _ (HZ3.out _ hd6) (fun hHeld => ?_); clear hK K)
      (refine Held.ready (rs := [7]) (by kernel_rfl) (by simp) ?_; refine Held.Ready.last rfl (fun K hK => ?_); go_simp; refine hK.out _ _ ?_; clear hK K)
      refine Held.done (by kernel_rfl) ?_ _
      have hd7 := Boxes.set3_below (T := W3.heap.size) (a := .string ten) (b := .slice ma 1 mc) (c := .string SM) hd6 hD.size
      have hbx := Boxes.set3_box hbk (.string ten) (.slice ma 1 mc) (.string SM)
      have hlt7 : W3.heap.size < w5.heap.size := (Array.getElem?_eq_some_iff.1 hbk5).1
      have hrow7 := (((hown6.set (T := W3.heap.size) (i := 0) (u := .string ten) hlt7).set (T := W3.heap.size) (i := 1) (u := .slice ma 1 mc) hlt7).set (T := W3.heap.size) (i := 2) (u := .string SM) hlt7).row HF1.out
      go_wp2_with fail
      go_meet
      exact ⟨W3.heap.size, ma, mc, rfl, hbx, hrow7, hd7⟩
  case rest =>
    obtain ⟨M, ma, mc, rfl, hM, hrowM, hb4⟩ := hcut
    have HA4 := Lib.hid ((HA3.out.more hb4).cons hM)
    have HR4 := Lib.hid ((HR3.out.more hb4).cons hrowM)
    have HB4 := Lib.hid (HB3.out.trans (hb4.mono HB3.out.size))
    clear hM hrowM hb4 HA3 HR3 HB3 HZ3 HRt3 hD hDb CNarM CNar
    go_wp2_with fail
    with_reducible refine (HGX.out _).mono ?_
    rintro e w9 ⟨⟨xa, xn, xc, rfl, hrowX⟩, b9⟩
    have bA : Below w9.heap.size w9 (w9.alloc (.cells #[.string xt, .slice xa xn xc, .string xs] 24)) := (Below.refl _ _).alloc (Nat.le_refl _) _
    have b95 := b9.trans (bA.mono b9.size)
    have HA5 := Lib.hid ((HA4.out.more b95).cons (heap_alloc_new w9 (.cells #[.string xt, .slice xa xn xc, .string xs] 24)))
    have HR5 := Lib.hid ((HR4.out.more b95).cons (hrowX.below bA))
    have HB5 := Lib.hid (HB4.out.trans (b95.mono HB4.out.size))
    clear hrowX b9 bA b95 HA4 HR4 HB4
    go_wp2_with fail
    obtain ⟨X, hXz⟩ : ∃ X, X = w9.heap.size := ⟨_, rfl⟩
    obtain ⟨W5, hW5⟩ : ∃ W, W = w9.alloc (.cells #[.string xt, .slice xa xn xc, .string xs] 24) := ⟨_, rfl⟩
    rw [← hW5] at HA5 HR5 HB5 ⊢
    rw [← hXz] at HA5 ⊢
    clear hW5 hXz
    with_reducible refine (HGY.out _).mono ?_
    rintro e w10 ⟨⟨ya, yn, yc, rfl, hrowY⟩, b10⟩
    have bA : Below w10.heap.size w10 (w10.alloc (.cells #[.string xt, .slice ya yn yc, .string xs] 31)) := (Below.refl _ _).alloc (Nat.le_refl _) _
    have b106 := b10.trans (bA.mono b10.size)
    have HA6 := Lib.hid ((HA5.out.more b106).cons (heap_alloc_new w10 (.cells #[.string xt, .slice ya yn yc, .string xs] 31)))
    have HR6 := Lib.hid ((HR5.out.more b106).cons (hrowY.below bA))
    have HB6 := Lib.hid (HB5.out.trans (b106.mono HB5.out.size))
    clear hrowY b10 bA b106 HA5 HR5 HB5 HGX HGY
    go_upto_region 11 with fail
    obtain ⟨Y, hYz⟩ : ∃ Y, Y = w10.heap.size := ⟨_, rfl⟩
    obtain ⟨U, hU⟩ : ∃ W, W = w10.alloc (.cells #[.string xt, .slice ya yn yc, .string xs] 31) := ⟨_, rfl⟩
    rw [← hU] at HA6 HR6 HB6 ⊢
    rw [← hYz] at HA6 ⊢
    clear hU hYz
    have HRt : Hid (∀ z, Below U.heap.size U z → Roots z) := Lib.hid fun z hz => HR.out.below (HB6.out.trans (hz.mono HB6.out.size))
    have hD : Below U.heap.size U U.drew := (Below.refl _ _).drew
    have HZ : Hid (∀ z, Below U.heap.size U z → (z.cell? ⟨N, 0, none⟩ = some (.string ten) ∧ z.cell? ⟨N, 1, none⟩ = some (.slice na (q + 1) nc) ∧ z.cell? ⟨N, 2, none⟩ = some (.string S3)) ∧ (z.cell? ⟨R, 0, none⟩ = some (.string ten) ∧ z.cell? ⟨R, 1, none⟩ = some (.slice ua q uc) ∧ z.cell? ⟨R, 2, none⟩ = some (.string sig)) ∧ (z.cell? ⟨w.heap.size + 1, 0, none⟩ = some (.int .i64 c1) ∧ z.cell? ⟨w.heap.size + 1, 1, none⟩ = some (.int .u64 (cn : Int))) ∧ (z.cell? ⟨X, 0, none⟩ = some (.string xt) ∧ z.cell? ⟨X, 1, none⟩ = some (.slice xa xn xc) ∧ z.cell? ⟨X, 2, none⟩ = some (.string xs)) ∧ (z.cell? ⟨Y, 0, none⟩ = some (.string xt) ∧ z.cell? ⟨Y, 1, none⟩ = some (.slice ya yn yc) ∧ z.cell? ⟨Y, 2, none⟩ = some (.string xs))) := Lib.hid fun z hz => by
      have h := HA6.out.more hz
      exact ⟨⟨(cells3 (h.get 3 rfl)).1, (cells3 (h.get 3 rfl)).2.1, (cells3 (h.get 3 rfl)).2.2.1⟩, ⟨(cells3 (h.get 4 rfl)).1, (cells3 (h.get 4 rfl)).2.1, (cells3 (h.get 4 rfl)).2.2.1⟩, ⟨(cells2 (h.get 6 rfl)).1, (cells2 (h.get 6 rfl)).2.1⟩, ⟨(cells3 (h.get 1 rfl)).1, (cells3 (h.get 1 rfl)).2.1, (cells3 (h.get 1 rfl)).2.2.1⟩, ⟨(cells3 (h.get 0 rfl)).1, (cells3 (h.get 0 rfl)).2.1, (cells3 (h.get 0 rfl)).2.2.1⟩⟩
    have hnx : (nx != nx) = false := by simp
    have hbx : (bx != bx) = false := by simp
    have hDD : (D.toList != D.toList) = false := by simp
    have hDD' : (D.toList == D.toList) = true := by simp
    have hlsn : (ls ++ [(c1, cn)]).length ≤ 100 := by rw [List.length_append, HLen.out]; simp; omega
    have hlx8 : lx.length ≤ 100 := by have := HLX.out; omega
    go_cut [100] (fun p wx => p = .bool false ∧ Below U.heap.size U wx)
    case first =>
      refine wp_region_held_drew (S := fun z => (z.cell? ⟨N, 0, none⟩ = some (.string ten) ∧ z.cell? ⟨N, 1, none⟩ = some (.slice na (q + 1) nc) ∧ z.cell? ⟨N, 2, none⟩ = some (.string S3)) ∧ (z.cell? ⟨R, 0, none⟩ = some (.string ten) ∧ z.cell? ⟨R, 1, none⟩ = some (.slice ua q uc) ∧ z.cell? ⟨R, 2, none⟩ = some (.string sig)) ∧ (z.cell? ⟨w.heap.size + 1, 0, none⟩ = some (.int .i64 c1) ∧ z.cell? ⟨w.heap.size + 1, 1, none⟩ = some (.int .u64 (cn : Int))) ∧ (z.cell? ⟨X, 0, none⟩ = some (.string xt) ∧ z.cell? ⟨X, 1, none⟩ = some (.slice xa xn xc) ∧ z.cell? ⟨X, 2, none⟩ = some (.string xs)) ∧ (z.cell? ⟨Y, 0, none⟩ = some (.string xt) ∧ z.cell? ⟨Y, 1, none⟩ = some (.slice ya yn yc) ∧ z.cell? ⟨Y, 2, none⟩ = some (.string xs))) (by kernel_rfl) (HZ.out _ hD) (fun hHeld => ?_)
      (refine Step.take (i := 0) (d := (some 66)) (v := .agg #[.string ten, .slice na (q + 1) nc, .string S3]) (by kernel_rfl) (by kernel_rfl) (by kernel_rfl) (by kernel_rfl) (by kernel_rfl) (fun _ _ _ h => h) hHeld (fun _ hSw => load_tok (x := .tmp 17) (by kernel_rfl) (by kernel_rfl) hSw.1) ?_)
      (refine Step.take (i := 1) (d := (some 67)) (v := .agg #[.string ten, .slice ua q uc, .string sig]) (by kernel_rfl) (by kernel_rfl) (by kernel_rfl) (by kernel_rfl) (by kernel_rfl) (fun _ _ _ h => h) hHeld (fun _ hSw => load_rtok (x := .tmp 16) (by kernel_rfl) (by kernel_rfl) hSw.2.1) ?_)
      (refine Step.take (i := 2) (d := (some 68)) (v := .pointer (some ⟨w.heap.size + 1, 0, none⟩)) (by kernel_rfl) (by kernel_rfl) (by kernel_rfl) (by kernel_rfl) (by kernel_rfl) (fun _ _ _ h => h) hHeld (fun _ hSw => by kernel_rfl) ?_)
      (refine Step.take (i := 3) (d := (some 69)) (v := .int .i64 c1) (by kernel_rfl) (by kernel_rfl) (by kernel_rfl) (by kernel_rfl) (by kernel_rfl) (fun _ _ _ h => h) hHeld (fun _ hSw => load_int (x := .tmp 68) (by kernel_rfl) (by kernel_rfl) hSw.2.2.1.1) ?_)
      (refine Step.take (i := 4) (d := (some 70)) (v := .pointer (some ⟨w.heap.size + 1, 1, none⟩)) (by kernel_rfl) (by kernel_rfl) (by kernel_rfl) (by kernel_rfl) (by kernel_rfl) (fun _ _ _ h => h) hHeld (fun _ hSw => by kernel_rfl) ?_)
      (refine Step.take (i := 5) (d := (some 71)) (v := .int .u64 (cn : Int)) (by kernel_rfl) (by kernel_rfl) (by kernel_rfl) (by kernel_rfl) (by kernel_rfl) (fun _ _ _ h => h) hHeld (fun _ hSw => load_u64 (x := .tmp 70) (by kernel_rfl) (by kernel_rfl) hSw.2.2.1.2) ?_)
      (refine Step.take (i := 6) (d := (some 72)) (v := .agg #[.int .i64 c1, .int .u64 (cn : Int)]) (by kernel_rfl) (by kernel_rfl) (by kernel_rfl) (by kernel_rfl) (by kernel_rfl) (fun _ _ _ h => h) hHeld (fun _ hSw => by kernel_rfl) ?_)
      (refine Step.call (i := 7) (d := (some 73)) 16 #[.agg #[.string ten, .slice ua q uc, .string sig], .agg #[.int .i64 c1, .int .u64 (cn : Int)]] (by kernel_rfl) (by kernel_rfl) (by kernel_rfl) (by kernel_rfl) ?_; clear hHeld; refine (CRNar.out _ _ ((HR6.out.more hD).get 4 rfl)).mono ?_; rintro e z1 ⟨⟨za, zc, rfl, hrowZ⟩, hbz⟩; have hd1 := hD.trans (hbz.mono hD.size); clear hbz; refine ⟨_, rfl, (HZ.out _ hd1), fun hHeld => ?_⟩)
      (refine Step.call (i := 8) (d := (some 74)) 15 #[.agg #[.string ten, .slice na (q + 1) nc, .string S3], .agg #[.string ten, .slice za (q + 1) zc, .string S3]] (by kernel_rfl) (by kernel_rfl) (by kernel_rfl) (by kernel_rfl) ?_; clear hHeld; refine (CSame.out _ _ _ _ _ _ hlsn ((HR6.out.more hd1).get 3 rfl) hrowZ).mono ?_; rintro e z2 ⟨rfl, hbz⟩; have hd2 := hd1.trans (hbz.mono hd1.size); clear hbz; refine ⟨_, rfl, (HZ.out _ hd2), fun hHeld => ?_⟩)
      (refine Step.take (i := 9) (d := (some 75)) (v := .bool false) (by kernel_rfl) (by kernel_rfl) (by kernel_rfl) (by kernel_rfl) (by kernel_rfl) (fun _ _ _ h => h) hHeld (fun _ hSw => by kernel_rfl) ?_)
      (refine Step.take (i := 10) (d := (some 76)) (v := .bool false) (by kernel_rfl) (by kernel_rfl) (by kernel_rfl) (by kernel_rfl) (by kernel_rfl) (fun _ _ _ h => h) hHeld (fun _ hSw => by kernel_rfl) ?_)
      (refine Step.take (i := 11) (d := (some 77)) (v := .agg #[.string xt, .slice xa xn xc, .string xs]) (by kernel_rfl) (by kernel_rfl) (by kernel_rfl) (by kernel_rfl) (by kernel_rfl) (fun _ _ _ h => h) hHeld (fun _ hSw => load_tok (x := .tmp 19) (by kernel_rfl) (by kernel_rfl) hSw.2.2.2.1) ?_)
      (refine Step.take (i := 12) (d := (some 78)) (v := .agg #[.string xt, .slice ya yn yc, .string xs]) (by kernel_rfl) (by kernel_rfl) (by kernel_rfl) (by kernel_rfl) (by kernel_rfl) (fun _ _ _ h => h) hHeld (fun _ hSw => load_rtok (x := .tmp 22) (by kernel_rfl) (by kernel_rfl) hSw.2.2.2.2) ?_)
      (refine Step.call (i := 13) (d := (some 79)) 15 #[.agg #[.string xt, .slice xa xn xc, .string xs], .agg #[.string xt, .slice ya yn yc, .string xs]] (by kernel_rfl) (by kernel_rfl) (by kernel_rfl) (by kernel_rfl) ?_; clear hHeld; refine (CSame.out _ _ _ _ _ _ hlx8 ((HR6.out.more hd2).get 1 rfl) ((HR6.out.more hd2).get 0 rfl)).mono ?_; rintro e z3 ⟨rfl, hbz⟩; have hd3 := hd2.trans (hbz.mono hd2.size); clear hbz; refine ⟨_, rfl, (HZ.out _ hd3), fun hHeld => ?_⟩)
      (refine Step.take (i := 14) (d := (some 80)) (v := .bool false) (by kernel_rfl) (by kernel_rfl) (by kernel_rfl) (by kernel_rfl) (by kernel_rfl) (fun _ _ _ h => h) hHeld (fun _ hSw => by kernel_rfl) ?_)
      (refine Step.take (i := 15) (d := (some 81)) (v := .bool false) (by kernel_rfl) (by kernel_rfl) (by kernel_rfl) (by kernel_rfl) (by kernel_rfl) (fun _ _ _ h => h) hHeld (fun _ hSw => by kernel_rfl) ?_)
      (refine Step.take (i := 16) (d := (some 82)) (v := .bool false) (by kernel_rfl) (by kernel_rfl) (by kernel_rfl) (by kernel_rfl) (by kernel_rfl) (fun _ _ _ h => h) hHeld (fun _ hSw => by kernel_rfl) ?_)
      (refine Step.take (i := 17) (d := (some 83)) (v := .int .i64 nx) (by kernel_rfl) (by kernel_rfl) (by kernel_rfl) (by kernel_rfl) (by kernel_rfl) (fun _ _ _ h => h) hHeld (fun _ hSw => by kernel_rfl) ?_)
      (refine Step.take (i := 18) (d := (some 84)) (v := .int .i64 nx) (by kernel_rfl) (by kernel_rfl) (by kernel_rfl) (by kernel_rfl) (by kernel_rfl) (fun _ _ _ h => h) hHeld (fun _ hSw => by kernel_rfl) ?_)
      (refine Step.take (i := 19) (d := (some 85)) (v := .bool false) (by kernel_rfl) (by kernel_rfl) (by kernel_rfl) (by kernel_rfl) (by kernel_rfl) (fun _ _ _ h => h) hHeld (fun _ hSw => neq_int (n := nx) (x := .tmp 83) (y := .tmp 84) (t := 3) (by kernel_rfl) (by kernel_rfl) (by kernel_rfl)) ?_)
      (refine Step.take (i := 20) (d := (some 86)) (v := .bool false) (by kernel_rfl) (by kernel_rfl) (by kernel_rfl) (by kernel_rfl) (by kernel_rfl) (fun _ _ _ h => h) hHeld (fun _ hSw => by kernel_rfl) ?_)
      (refine Step.take (i := 21) (d := (some 87)) (v := .bool false) (by kernel_rfl) (by kernel_rfl) (by kernel_rfl) (by kernel_rfl) (by kernel_rfl) (fun _ _ _ h => h) hHeld (fun _ hSw => by kernel_rfl) ?_)
      (refine Step.take (i := 22) (d := (some 88)) (v := .bool bx) (by kernel_rfl) (by kernel_rfl) (by kernel_rfl) (by kernel_rfl) (by kernel_rfl) (fun _ _ _ h => h) hHeld (fun _ hSw => by kernel_rfl) ?_)
      (refine Step.take (i := 23) (d := (some 89)) (v := .bool bx) (by kernel_rfl) (by kernel_rfl) (by kernel_rfl) (by kernel_rfl) (by kernel_rfl) (fun _ _ _ h => h) hHeld (fun _ hSw => by kernel_rfl) ?_)
      (refine Step.take (i := 24) (d := (some 90)) (v := .bool false) (by kernel_rfl) (by kernel_rfl) (by kernel_rfl) (by kernel_rfl) (by kernel_rfl) (fun _ _ _ h => h) hHeld (fun _ hSw => neq_bool (n := bx) (x := .tmp 88) (y := .tmp 89) (t := 4) (by kernel_rfl) (by kernel_rfl) (by kernel_rfl)) ?_)
      (refine Step.take (i := 25) (d := (some 91)) (v := .bool false) (by kernel_rfl) (by kernel_rfl) (by kernel_rfl) (by kernel_rfl) (by kernel_rfl) (fun _ _ _ h => h) hHeld (fun _ hSw => by kernel_rfl) ?_)
      (refine Step.take (i := 26) (d := (some 92)) (v := .bool false) (by kernel_rfl) (by kernel_rfl) (by kernel_rfl) (by kernel_rfl) (by kernel_rfl) (fun _ _ _ h => h) hHeld (fun _ hSw => by kernel_rfl) ?_)
      (refine Step.take (i := 27) (d := (some 93)) (v := .string key) (by kernel_rfl) (by kernel_rfl) (by kernel_rfl) (by kernel_rfl) (by kernel_rfl) (fun _ _ _ h => h) hHeld (fun _ hSw => by kernel_rfl) ?_)
      (refine Step.take (i := 28) (d := (some 94)) (v := .string s) (by kernel_rfl) (by kernel_rfl) (by kernel_rfl) (by kernel_rfl) (by kernel_rfl) (fun _ _ _ h => h) hHeld (fun _ hSw => by kernel_rfl) ?_)
      (refine Step.take (i := 30) (d := (some 96)) (v := .string key) (by kernel_rfl) (by kernel_rfl) (by kernel_rfl) (by kernel_rfl) (by kernel_rfl) (fun _ _ _ h => h) hHeld (fun _ hSw => by kernel_rfl) ?_)
      (refine Step.take (i := 31) (d := (some 97)) (v := .string s) (by kernel_rfl) (by kernel_rfl) (by kernel_rfl) (by kernel_rfl) (by kernel_rfl) (fun _ _ _ h => h) hHeld (fun _ hSw => by kernel_rfl) ?_)
      (refine Step.call (i := 29) (d := (some 95)) 17 #[.string key, .string s] (by kernel_rfl) (by kernel_rfl) (by kernel_rfl) (by kernel_rfl) ?_; clear hHeld; refine (CSign.out _ (HRt.out _ hd3)).mono ?_; rintro e z4 ⟨rfl, hbz⟩; have hd4 := hd3.trans (hbz.mono hd3.size); clear hbz; refine ⟨_, rfl, (HZ.out _ hd4), fun hHeld => ?_⟩)
      (refine Step.call (i := 32) (d := (some 98)) 18 #[.string key, .string s] (by kernel_rfl) (by kernel_rfl) (by kernel_rfl) (by kernel_rfl) ?_; clear hHeld; refine (CRSign.out _).mono ?_; rintro e z5 ⟨rfl, hbz⟩; have hd5 := hd4.trans (hbz.mono hd4.size); clear hbz; refine ⟨_, rfl, (HZ.out _ hd5), fun hHeld => ?_⟩)
      (refine Step.take (i := 33) (d := (some 99)) (v := .bool false) (by kernel_rfl) (by kernel_rfl) (by kernel_rfl) (by kernel_rfl) (by kernel_rfl) (fun _ _ _ h => h) hHeld (fun _ hSw => neq_str (D := D) (x := .tmp 95) (y := .tmp 98) (t := 9) (by kernel_rfl) (by kernel_rfl) (by kernel_rfl)) ?_)
      (refine Step.take (i := 34) (d := (some 100)) (v := .bool false) (by kernel_rfl) (by kernel_rfl) (by kernel_rfl) (by kernel_rfl) (by kernel_rfl) (fun _ _ _ h => h) hHeld (fun _ hSw => by kernel_rfl) ?_)
      refine wpAnyH_done (by kernel_rfl) ?_ _
      simp only [Act.put, List.setIfInBounds_toArray, List.set_cons_succ, List.set_cons_zero]
      go_wp2_with fail
      go_meet
      exact ⟨rfl, hd5⟩
    case rest =>
      obtain ⟨rfl, hcb⟩ := hcut
      have HA7 := Lib.hid (HA6.out.more hcb)
      have HR7 := Lib.hid (HR6.out.more hcb)
      have HB7 := Lib.hid (HB6.out.trans (hcb.mono HB6.out.size))
      clear hcb HA6 HR6 HB6 HZ hD HRt hnx hbx hDD hDD' CRNar CSign CRSign
      go_upto_region 13 with fail
      have HRt : Hid (∀ z, Below wc.heap.size wc z → Roots z) := Lib.hid fun z hz => HR.out.below (HB7.out.trans (hz.mono HB7.out.size))
      have hd0 : Below wc.heap.size wc wc.drew := (Below.refl _ _).drew
      have HZ : Hid (∀ z, Below wc.heap.size wc z → (z.cell? ⟨w.heap.size, 0, none⟩ = some (.string ten) ∧ z.cell? ⟨w.heap.size, 1, none⟩ = some (.slice a q cap) ∧ z.cell? ⟨w.heap.size, 2, none⟩ = some (.string sig)) ∧ (z.cell? ⟨R, 0, none⟩ = some (.string ten) ∧ z.cell? ⟨R, 1, none⟩ = some (.slice ua q uc) ∧ z.cell? ⟨R, 2, none⟩ = some (.string sig)) ∧ (z.cell? ⟨M, 0, none⟩ = some (.string ten) ∧ z.cell? ⟨M, 1, none⟩ = some (.slice ma 1 mc) ∧ z.cell? ⟨M, 2, none⟩ = some (.string SM))) := Lib.hid fun z hz => by
        have h := HA7.out.more hz
        exact ⟨⟨(cells3 (h.get 5 rfl)).1, (cells3 (h.get 5 rfl)).2.1, (cells3 (h.get 5 rfl)).2.2.1⟩, ⟨(cells3 (h.get 4 rfl)).1, (cells3 (h.get 4 rfl)).2.1, (cells3 (h.get 4 rfl)).2.2.1⟩, ⟨(cells3 (h.get 2 rfl)).1, (cells3 (h.get 2 rfl)).2.1, (cells3 (h.get 2 rfl)).2.2.1⟩⟩
      have hlsq : ls.length ≤ 100 := by have := HLen.out; omega
      have hlc1 : [(c1, cn)].length ≤ 100 := by simp
      refine wp_region_held_drew (S := fun z => (z.cell? ⟨w.heap.size, 0, none⟩ = some (.string ten) ∧ z.cell? ⟨w.heap.size, 1, none⟩ = some (.slice a q cap) ∧ z.cell? ⟨w.heap.size, 2, none⟩ = some (.string sig)) ∧ (z.cell? ⟨R, 0, none⟩ = some (.string ten) ∧ z.cell? ⟨R, 1, none⟩ = some (.slice ua q uc) ∧ z.cell? ⟨R, 2, none⟩ = some (.string sig)) ∧ (z.cell? ⟨M, 0, none⟩ = some (.string ten) ∧ z.cell? ⟨M, 1, none⟩ = some (.slice ma 1 mc) ∧ z.cell? ⟨M, 2, none⟩ = some (.string SM))) (by kernel_rfl) (HZ.out _ hd0) (fun hHeld => ?_)
      (refine Step.take (i := 0) (d := (some 101)) (v := .bool true) (by kernel_rfl) (by kernel_rfl) (by kernel_rfl) (by kernel_rfl) (by kernel_rfl) (fun _ _ _ h => h) hHeld (fun _ hSw => by kernel_rfl) ?_)
      (refine Step.take (i := 1) (d := (some 102)) (v := .bool true) (by kernel_rfl) (by kernel_rfl) (by kernel_rfl) (by kernel_rfl) (by kernel_rfl) (fun _ _ _ h => h) hHeld (fun _ hSw => by kernel_rfl) ?_)
      (refine Step.take (i := 2) (d := (some 103)) (v := .string key) (by kernel_rfl) (by kernel_rfl) (by kernel_rfl) (by kernel_rfl) (by kernel_rfl) (fun _ _ _ h => h) hHeld (fun _ hSw => by kernel_rfl) ?_)
      (refine Step.take (i := 3) (d := (some 104)) (v := .pointer (some ⟨w.heap.size, 0, none⟩)) (by kernel_rfl) (by kernel_rfl) (by kernel_rfl) (by kernel_rfl) (by kernel_rfl) (fun _ _ _ h => h) hHeld (fun _ hSw => by kernel_rfl) ?_)
      (refine Step.take (i := 4) (d := (some 105)) (v := .string ten) (by kernel_rfl) (by kernel_rfl) (by kernel_rfl) (by kernel_rfl) (by kernel_rfl) (fun _ _ _ h => h) hHeld (fun _ hSw => load_str (x := .tmp 104) (by kernel_rfl) (by kernel_rfl) hSw.1.1) ?_)
      (refine Step.take (i := 6) (d := (some 107)) (v := .string key) (by kernel_rfl) (by kernel_rfl) (by kernel_rfl) (by kernel_rfl) (by kernel_rfl) (fun _ _ _ h => h) hHeld (fun _ hSw => by kernel_rfl) ?_)
      (refine Step.take (i := 7) (d := (some 108)) (v := .pointer (some ⟨w.heap.size, 0, none⟩)) (by kernel_rfl) (by kernel_rfl) (by kernel_rfl) (by kernel_rfl) (by kernel_rfl) (fun _ _ _ h => h) hHeld (fun _ hSw => by kernel_rfl) ?_)
      (refine Step.take (i := 8) (d := (some 109)) (v := .string ten) (by kernel_rfl) (by kernel_rfl) (by kernel_rfl) (by kernel_rfl) (by kernel_rfl) (fun _ _ _ h => h) hHeld (fun _ hSw => load_str (x := .tmp 108) (by kernel_rfl) (by kernel_rfl) hSw.1.1) ?_)
      (refine Step.call (i := 5) (d := (some 106)) 12 #[.string key, .string ten] (by kernel_rfl) (by kernel_rfl) (by kernel_rfl) (by kernel_rfl) ?_; clear hHeld; refine (CNew.out _ (HRt.out _ hd0)).mono ?_; rintro e z1 ⟨rfl, hbz⟩; have hd1 := hd0.trans (hbz.mono hd0.size); clear hbz; refine ⟨_, rfl, (HZ.out _ hd1), fun hHeld => ?_⟩)
      (refine Step.call (i := 9) (d := (some 110)) 19 #[.string key, .string ten] (by kernel_rfl) (by kernel_rfl) (by kernel_rfl) (by kernel_rfl) ?_; clear hHeld; refine (CRNew.out _).mono ?_; rintro e z2 ⟨rfl, hbz⟩; have hd2 := hd1.trans (hbz.mono hd1.size); clear hbz; refine ⟨_, rfl, (HZ.out _ hd2), fun hHeld => ?_⟩)
      (refine Step.call (i := 10) (d := (some 111)) 15 #[.agg #[.string ten, .slice none 0 0, .string S0], .agg #[.string ten, .slice none 0 0, .string S0]] (by kernel_rfl) (by kernel_rfl) (by kernel_rfl) (by kernel_rfl) ?_; clear hHeld; refine (CSame.out _ _ _ _ [] _ (by simp) (Row.nil _) (Row.nil _)).mono ?_; rintro e z3 ⟨rfl, hbz⟩; have hd3 := hd2.trans (hbz.mono hd2.size); clear hbz; refine ⟨_, rfl, (HZ.out _ hd3), fun hHeld => ?_⟩)
      (refine Step.take (i := 11) (d := (some 112)) (v := .bool true) (by kernel_rfl) (by kernel_rfl) (by kernel_rfl) (by kernel_rfl) (by kernel_rfl) (fun _ _ _ h => h) hHeld (fun _ hSw => by kernel_rfl) ?_)
      (refine Step.take (i := 12) (d := (some 113)) (v := .bool true) (by kernel_rfl) (by kernel_rfl) (by kernel_rfl) (by kernel_rfl) (by kernel_rfl) (fun _ _ _ h => h) hHeld (fun _ hSw => by kernel_rfl) ?_)
      (refine Step.take (i := 13) (d := (some 114)) (v := .string key) (by kernel_rfl) (by kernel_rfl) (by kernel_rfl) (by kernel_rfl) (by kernel_rfl) (fun _ _ _ h => h) hHeld (fun _ hSw => by kernel_rfl) ?_)
      (refine Step.take (i := 14) (d := (some 115)) (v := .agg #[.string ten, .slice a q cap, .string sig]) (by kernel_rfl) (by kernel_rfl) (by kernel_rfl) (by kernel_rfl) (by kernel_rfl) (fun _ _ _ h => h) hHeld (fun _ hSw => load_tok (x := .tmp 9) (by kernel_rfl) (by kernel_rfl) hSw.1) ?_)
      (refine Step.take (i := 16) (d := (some 117)) (v := .string key) (by kernel_rfl) (by kernel_rfl) (by kernel_rfl) (by kernel_rfl) (by kernel_rfl) (fun _ _ _ h => h) hHeld (fun _ hSw => by kernel_rfl) ?_)
      (refine Step.take (i := 17) (d := (some 118)) (v := .agg #[.string ten, .slice ua q uc, .string sig]) (by kernel_rfl) (by kernel_rfl) (by kernel_rfl) (by kernel_rfl) (by kernel_rfl) (fun _ _ _ h => h) hHeld (fun _ hSw => load_rtok (x := .tmp 16) (by kernel_rfl) (by kernel_rfl) hSw.2.1) ?_)
      (refine Step.call (i := 15) (d := (some 116)) 20 #[.string key, .agg #[.string ten, .slice a q cap, .string sig]] (by kernel_rfl) (by kernel_rfl) (by kernel_rfl) (by kernel_rfl) ?_; clear hHeld; refine (CCheck.out _ _ (HRt.out _ hd3) ((HR7.out.more hd3).get 5 rfl)).mono ?_; rintro e z4 ⟨rfl, hbz⟩; have hd4 := hd3.trans (hbz.mono hd3.size); clear hbz; refine ⟨_, rfl, (HZ.out _ hd4), fun hHeld => ?_⟩)
      (refine Step.call (i := 18) (d := (some 119)) 21 #[.string key, .agg #[.string ten, .slice ua q uc, .string sig]] (by kernel_rfl) (by kernel_rfl) (by kernel_rfl) (by kernel_rfl) ?_; clear hHeld; refine (CRCheck.out _ _ ((HR7.out.more hd4).get 4 rfl)).mono ?_; rintro e z5 ⟨rfl, hbz⟩; have hd5 := hd4.trans (hbz.mono hd4.size); clear hbz; refine ⟨_, rfl, (HZ.out _ hd5), fun hHeld => ?_⟩)
      (refine Step.take (i := 19) (d := (some 120)) (v := .bool true) (by kernel_rfl) (by kernel_rfl) (by kernel_rfl) (by kernel_rfl) (by kernel_rfl) (fun _ _ _ h => h) hHeld (fun _ hSw => eql_bool (n := ck) (x := .tmp 116) (y := .tmp 119) (t := 4) (by kernel_rfl) (by kernel_rfl) (by kernel_rfl)) ?_)
      (refine Step.take (i := 20) (d := (some 121)) (v := .bool true) (by kernel_rfl) (by kernel_rfl) (by kernel_rfl) (by kernel_rfl) (by kernel_rfl) (fun _ _ _ h => h) hHeld (fun _ hSw => by kernel_rfl) ?_)
      (refine Step.take (i := 21) (d := (some 122)) (v := .bool true) (by kernel_rfl) (by kernel_rfl) (by kernel_rfl) (by kernel_rfl) (by kernel_rfl) (fun _ _ _ h => h) hHeld (fun _ hSw => by kernel_rfl) ?_)
      (refine Step.take (i := 22) (d := (some 123)) (v := .string key) (by kernel_rfl) (by kernel_rfl) (by kernel_rfl) (by kernel_rfl) (by kernel_rfl) (fun _ _ _ h => h) hHeld (fun _ hSw => by kernel_rfl) ?_)
      (refine Step.take (i := 23) (d := (some 124)) (v := .agg #[.string ten, .slice ma 1 mc, .string SM]) (by kernel_rfl) (by kernel_rfl) (by kernel_rfl) (by kernel_rfl) (by kernel_rfl) (fun _ _ _ h => h) hHeld (fun _ hSw => load_tok (x := .tmp 18) (by kernel_rfl) (by kernel_rfl) hSw.2.2) ?_)
      (refine Step.take (i := 25) (d := (some 126)) (v := .string key) (by kernel_rfl) (by kernel_rfl) (by kernel_rfl) (by kernel_rfl) (by kernel_rfl) (fun _ _ _ h => h) hHeld (fun _ hSw => by kernel_rfl) ?_)
      (refine Step.take (i := 26) (d := (some 127)) (v := .agg #[.string ten, .slice ma 1 mc, .string SM]) (by kernel_rfl) (by kernel_rfl) (by kernel_rfl) (by kernel_rfl) (by kernel_rfl) (fun _ _ _ h => h) hHeld (fun _ hSw => load_tok (x := .tmp 18) (by kernel_rfl) (by kernel_rfl) hSw.2.2) ?_)
      (refine Step.call (i := 24) (d := (some 125)) 20 #[.string key, .agg #[.string ten, .slice ma 1 mc, .string SM]] (by kernel_rfl) (by kernel_rfl) (by kernel_rfl) (by kernel_rfl) ?_; clear hHeld; refine (CCheckM.out _ _ (HRt.out _ hd5) ((HR7.out.more hd5).get 2 rfl)).mono ?_; rintro e z6 ⟨rfl, hbz⟩; have hd6 := hd5.trans (hbz.mono hd5.size); clear hbz; refine ⟨_, rfl, (HZ.out _ hd6), fun hHeld => ?_⟩)
      (refine Step.call (i := 27) (d := (some 128)) 10 #[.agg #[.string ten, .slice ma 1 mc, .string SM]] (by kernel_rfl) (by kernel_rfl) (by kernel_rfl) (by kernel_rfl) ?_; clear hHeld; refine (CRef.out _ _ _ _ _ ((HR7.out.more hd6).get 2 rfl) hlc1 HF1.out).mono ?_; rintro e z7 ⟨⟨za, zc, rfl, hrowZ⟩, hbz⟩; have hd7 := hd6.trans (hbz.mono hd6.size); clear hbz; refine ⟨_, rfl, (HZ.out _ hd7), fun hHeld => ?_⟩)
      (refine Step.call (i := 28) (d := (some 129)) 21 #[.string key, .agg #[.string ten, .slice za 1 zc, .string SM]] (by kernel_rfl) (by kernel_rfl) (by kernel_rfl) (by kernel_rfl) ?_; clear hHeld; refine (CRCheckM.out _ _ hrowZ).mono ?_; rintro e z8 ⟨rfl, hbz⟩; have hd8 := hd7.trans (hbz.mono hd7.size); clear hbz; refine ⟨_, rfl, (HZ.out _ hd8), fun hHeld => ?_⟩)
      (refine Step.take (i := 29) (d := (some 130)) (v := .bool true) (by kernel_rfl) (by kernel_rfl) (by kernel_rfl) (by kernel_rfl) (by kernel_rfl) (fun _ _ _ h => h) hHeld (fun _ hSw => eql_bool (n := cm) (x := .tmp 125) (y := .tmp 129) (t := 4) (by kernel_rfl) (by kernel_rfl) (by kernel_rfl)) ?_)
      (refine Step.take (i := 30) (d := (some 131)) (v := .bool true) (by kernel_rfl) (by kernel_rfl) (by kernel_rfl) (by kernel_rfl) (by kernel_rfl) (fun _ _ _ h => h) hHeld (fun _ hSw => by kernel_rfl) ?_)
      (refine Step.take (i := 31) (d := (some 132)) (v := .bool true) (by kernel_rfl) (by kernel_rfl) (by kernel_rfl) (by kernel_rfl) (by kernel_rfl) (fun _ _ _ h => h) hHeld (fun _ hSw => by kernel_rfl) ?_)
      (refine Step.take (i := 32) (d := (some 133)) (v := .agg #[.string ten, .slice a q cap, .string sig]) (by kernel_rfl) (by kernel_rfl) (by kernel_rfl) (by kernel_rfl) (by kernel_rfl) (fun _ _ _ h => h) hHeld (fun _ hSw => load_tok (x := .tmp 9) (by kernel_rfl) (by kernel_rfl) hSw.1) ?_)
      (refine Step.take (i := 33) (d := (some 134)) (v := .int .u64 (r : Int)) (by kernel_rfl) (by kernel_rfl) (by kernel_rfl) (by kernel_rfl) (by kernel_rfl) (fun _ _ _ h => h) hHeld (fun _ hSw => by kernel_rfl) ?_)
      (refine Step.take (i := 34) (d := (some 135)) (v := .int .u64 (u : Int)) (by kernel_rfl) (by kernel_rfl) (by kernel_rfl) (by kernel_rfl) (by kernel_rfl) (fun _ _ _ h => h) hHeld (fun _ hSw => by kernel_rfl) ?_)
      (refine Step.take (i := 36) (d := (some 137)) (v := .agg #[.string ten, .slice ua q uc, .string sig]) (by kernel_rfl) (by kernel_rfl) (by kernel_rfl) (by kernel_rfl) (by kernel_rfl) (fun _ _ _ h => h) hHeld (fun _ hSw => load_rtok (x := .tmp 16) (by kernel_rfl) (by kernel_rfl) hSw.2.1) ?_)
      (refine Step.take (i := 37) (d := (some 138)) (v := .int .u64 (r : Int)) (by kernel_rfl) (by kernel_rfl) (by kernel_rfl) (by kernel_rfl) (by kernel_rfl) (fun _ _ _ h => h) hHeld (fun _ hSw => by kernel_rfl) ?_)
      (refine Step.take (i := 38) (d := (some 139)) (v := .int .u64 (u : Int)) (by kernel_rfl) (by kernel_rfl) (by kernel_rfl) (by kernel_rfl) (by kernel_rfl) (fun _ _ _ h => h) hHeld (fun _ hSw => by kernel_rfl) ?_)
      (refine Step.call (i := 35) (d := (some 136)) 22 #[.agg #[.string ten, .slice a q cap, .string sig], .int .u64 (r : Int), .int .u64 (u : Int)] (by kernel_rfl) (by kernel_rfl) (by kernel_rfl) (by kernel_rfl) ?_; clear hHeld; refine (CAllows.out _ _ ((HR7.out.more hd8).get 5 rfl)).mono ?_; rintro e z9 ⟨rfl, hbz⟩; have hd9 := hd8.trans (hbz.mono hd8.size); clear hbz; refine ⟨_, rfl, (HZ.out _ hd9), fun hHeld => ?_⟩)
      (refine Step.call (i := 39) (d := (some 140)) 23 #[.agg #[.string ten, .slice ua q uc, .string sig], .int .u64 (r : Int), .int .u64 (u : Int)] (by kernel_rfl) (by kernel_rfl) (by kernel_rfl) (by kernel_rfl) ?_; clear hHeld; refine (CRAllows.out _ _ ((HR7.out.more hd9).get 4 rfl)).mono ?_; rintro e z10 ⟨rfl, hbz⟩; have hd10 := hd9.trans (hbz.mono hd9.size); clear hbz; refine ⟨_, rfl, (HZ.out _ hd10), fun hHeld => ?_⟩)
      (refine Step.take (i := 40) (d := (some 141)) (v := .bool true) (by kernel_rfl) (by kernel_rfl) (by kernel_rfl) (by kernel_rfl) (by kernel_rfl) (fun _ _ _ h => h) hHeld (fun _ hSw => eql_bool (n := al) (x := .tmp 136) (y := .tmp 140) (t := 4) (by kernel_rfl) (by kernel_rfl) (by kernel_rfl)) ?_)
      (refine Step.take (i := 41) (d := (some 142)) (v := .bool true) (by kernel_rfl) (by kernel_rfl) (by kernel_rfl) (by kernel_rfl) (by kernel_rfl) (fun _ _ _ h => h) hHeld (fun _ hSw => by kernel_rfl) ?_)
      (refine Step.take (i := 42) (d := (some 143)) (v := .bool true) (by kernel_rfl) (by kernel_rfl) (by kernel_rfl) (by kernel_rfl) (by kernel_rfl) (fun _ _ _ h => h) hHeld (fun _ hSw => by kernel_rfl) ?_)
      (refine Step.take (i := 43) (d := (some 144)) (v := .agg #[.string ten, .slice a q cap, .string sig]) (by kernel_rfl) (by kernel_rfl) (by kernel_rfl) (by kernel_rfl) (by kernel_rfl) (fun _ _ _ h => h) hHeld (fun _ hSw => load_tok (x := .tmp 9) (by kernel_rfl) (by kernel_rfl) hSw.1) ?_)
      (refine Step.take (i := 45) (d := (some 146)) (v := .agg #[.string ten, .slice ua q uc, .string sig]) (by kernel_rfl) (by kernel_rfl) (by kernel_rfl) (by kernel_rfl) (by kernel_rfl) (fun _ _ _ h => h) hHeld (fun _ hSw => load_rtok (x := .tmp 16) (by kernel_rfl) (by kernel_rfl) hSw.2.1) ?_)
      (refine Step.call (i := 44) (d := (some 145)) 24 #[.agg #[.string ten, .slice a q cap, .string sig]] (by kernel_rfl) (by kernel_rfl) (by kernel_rfl) (by kernel_rfl) ?_; clear hHeld; refine (CPut.out _ _ ((HR7.out.more hd10).get 5 rfl)).mono ?_; rintro e z11 ⟨rfl, hbz⟩; have hd11 := hd10.trans (hbz.mono hd10.size); clear hbz; refine ⟨_, rfl, (HZ.out _ hd11), fun hHeld => ?_⟩)
      (refine Step.call (i := 46) (d := (some 147)) 25 #[.agg #[.string ten, .slice ua q uc, .string sig]] (by kernel_rfl) (by kernel_rfl) (by kernel_rfl) (by kernel_rfl) ?_; clear hHeld; refine (CRPut.out _ _ ((HR7.out.more hd11).get 4 rfl)).mono ?_; rintro e z12 ⟨rfl, hbz⟩; have hd12 := hd11.trans (hbz.mono hd11.size); clear hbz; refine ⟨_, rfl, (HZ.out _ hd12), fun hHeld => ?_⟩)
      (refine Step.take (i := 47) (d := (some 148)) (v := .bool true) (by kernel_rfl) (by kernel_rfl) (by kernel_rfl) (by kernel_rfl) (by kernel_rfl) (fun _ _ _ h => h) hHeld (fun _ hSw => eql_str (D := PT) (x := .tmp 145) (y := .tmp 147) (t := 9) (by kernel_rfl) (by kernel_rfl) (by kernel_rfl)) ?_)
      (refine Step.take (i := 48) (d := (some 149)) (v := .bool true) (by kernel_rfl) (by kernel_rfl) (by kernel_rfl) (by kernel_rfl) (by kernel_rfl) (fun _ _ _ h => h) hHeld (fun _ hSw => by kernel_rfl) ?_)
      (refine Step.take (i := 49) (d := (some 150)) (v := .bool true) (by kernel_rfl) (by kernel_rfl) (by kernel_rfl) (by kernel_rfl) (by kernel_rfl) (fun _ _ _ h => h) hHeld (fun _ hSw => by kernel_rfl) ?_)
      (refine Step.take (i := 50) (d := (some 151)) (v := .agg #[.string ten, .slice ma 1 mc, .string SM]) (by kernel_rfl) (by kernel_rfl) (by kernel_rfl) (by kernel_rfl) (by kernel_rfl) (fun _ _ _ h => h) hHeld (fun _ hSw => load_tok (x := .tmp 18) (by kernel_rfl) (by kernel_rfl) hSw.2.2) ?_)
      (refine Step.take (i := 52) (d := (some 153)) (v := .agg #[.string ten, .slice ma 1 mc, .string SM]) (by kernel_rfl) (by kernel_rfl) (by kernel_rfl) (by kernel_rfl) (by kernel_rfl) (fun _ _ _ h => h) hHeld (fun _ hSw => load_tok (x := .tmp 18) (by kernel_rfl) (by kernel_rfl) hSw.2.2) ?_)
      (refine Step.call (i := 51) (d := (some 152)) 24 #[.agg #[.string ten, .slice ma 1 mc, .string SM]] (by kernel_rfl) (by kernel_rfl) (by kernel_rfl) (by kernel_rfl) ?_; clear hHeld; refine (CPutM.out _ _ ((HR7.out.more hd12).get 2 rfl)).mono ?_; rintro e z13 ⟨rfl, hbz⟩; have hd13 := hd12.trans (hbz.mono hd12.size); clear hbz; refine ⟨_, rfl, (HZ.out _ hd13), fun hHeld => ?_⟩)
      (refine Step.call (i := 53) (d := (some 154)) 10 #[.agg #[.string ten, .slice ma 1 mc, .string SM]] (by kernel_rfl) (by kernel_rfl) (by kernel_rfl) (by kernel_rfl) ?_; clear hHeld; refine (CRef.out _ _ _ _ _ ((HR7.out.more hd13).get 2 rfl) hlc1 HF1.out).mono ?_; rintro e z14 ⟨⟨ya', yc', rfl, hrowY⟩, hbz⟩; have hd14 := hd13.trans (hbz.mono hd13.size); clear hbz; refine ⟨_, rfl, (HZ.out _ hd14), fun hHeld => ?_⟩)
      (refine Step.call (i := 54) (d := (some 155)) 25 #[.agg #[.string ten, .slice ya' 1 yc', .string SM]] (by kernel_rfl) (by kernel_rfl) (by kernel_rfl) (by kernel_rfl) ?_; clear hHeld; refine (CRPutM.out _ _ hrowY).mono ?_; rintro e z15 ⟨rfl, hbz⟩; have hd15 := hd14.trans (hbz.mono hd14.size); clear hbz; refine ⟨_, rfl, (HZ.out _ hd15), fun hHeld => ?_⟩)
      (refine Step.take (i := 55) (d := (some 156)) (v := .bool true) (by kernel_rfl) (by kernel_rfl) (by kernel_rfl) (by kernel_rfl) (by kernel_rfl) (fun _ _ _ h => h) hHeld (fun _ hSw => eql_str (D := PM) (x := .tmp 152) (y := .tmp 155) (t := 9) (by kernel_rfl) (by kernel_rfl) (by kernel_rfl)) ?_)
      (refine Step.take (i := 56) (d := (some 157)) (v := .bool true) (by kernel_rfl) (by kernel_rfl) (by kernel_rfl) (by kernel_rfl) (by kernel_rfl) (fun _ _ _ h => h) hHeld (fun _ hSw => by kernel_rfl) ?_)
      (refine Step.take (i := 57) (d := (some 14)) (v := .bool true) (by kernel_rfl) (by kernel_rfl) (by kernel_rfl) (by kernel_rfl) (by kernel_rfl) (fun _ _ _ h => h) hHeld (fun _ hSw => by kernel_rfl) ?_)
      refine wpAnyH_done (by kernel_rfl) ?_ _
      simp only [Act.put, List.setIfInBounds_toArray, List.set_cons_succ, List.set_cons_zero]
      go_wp2
      go_ret
      exact ⟨rfl, HB7.out.trans (hd15.mono HB7.out.size)⟩
end Go.Proofs.YthopegokjbibmaaDoor.macTells
