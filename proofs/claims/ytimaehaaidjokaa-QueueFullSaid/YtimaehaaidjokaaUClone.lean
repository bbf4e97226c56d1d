/- A copy of a queue of one's own (slices.Clone), and where one who is pushed goes (chapter 14); of memory that was there nothing turns. -/
import Derived.Test.YtimaehaaidjokaaUPlace
import Derived.OwnWalk
import Derived.Laws.OwnMore
namespace Go.Proofs.Ytimaehaaidjokaa.Queue
open Go.RowKit

set_option maxHeartbeats 1000000 in
set_option maxRecDepth 100000 in
theorem cloneU_any (v : Value) (t : List E) (w : World) (hv : Row w v t) (hz : t.length ≤ 8796093022208) :
    Calls Try.prog 24 #[v] w fun r w' => (∃ v', r = .returned v' ∧ Mine 25 w' w.heap.size v' t) ∧ Below w.heap.size w w' := by
  obtain ⟨i0, hi, hz0, hz1, hz2⟩ := info_parts infoE
  have key : ∀ (a : Addr) (cap : Nat), v = .slice (some a) t.length cap → (∀ j u, (t.flatMap enc)[j]? = some u → w.cell? (a.add j) = some u) →
      Calls Try.prog 24 #[v] w fun r w' => (∃ v', r = .returned v' ∧ Mine 25 w' w.heap.size v' t) ∧ Below w.heap.size w w' := by
    intro a cap e hc
    subst e
    have hnil := fun w => Lib.run_eql_slice_nil (P := Try.prog) w 22 25 (some a) t.length cap 0 0 Try.underlying22
    have hb1 : Below w.heap.size w (w.alloc (.cells #[] 25)) := (Below.refl _ _).alloc (Nat.le_refl _) _
    have HCell : Hid (∀ j u, (t.flatMap enc)[j]? = some u → (w.alloc (.cells #[] 25)).cell? (a.add j) = some u) := Lib.hid (fun j u hj => by
      have h0 := hc j u hj
      have hlt := World.block_lt_of_cell? w (a.add j) h0
      rw [hb1.cell hlt]; exact h0)
    have HOw := Lib.hid (World.ownsRow_lit (base := w.heap.size) (e := 25) (size := 2) w #[] 0 (Nat.le_refl _) (by decide) rfl)
    have HLn : Hid ((t.flatMap enc).length = t.length * 2) := Lib.hid (fm_len t)
    have HOne := Lib.hid (fm_one t)
    have hsz : 0 + t.length ≤ maxLen ∧ (0 + t.length) * 16 ≤ 140737488355328 := by unfold maxLen; omega
    have HSz := Lib.hid hsz
    have hbase : w.heap.size ≤ (w.alloc (.cells #[] 25)).heap.size := by simp
    clear hc hsz
    go_enter Try.func24, Try.ntmps24
    go_wp2_with (at_builtin; refine wpList_append_own _ rfl _ _ 22 rfl w.heap.size 25 i0 _ 2 16 Try.underlying22 hi hz0 hz1 hz2 rfl (by decide) (.slice (some ⟨w.heap.size, 0, none⟩) 0 0) 0 [] rfl HOw.out a t.length cap (t.flatMap enc) rfl HLn.out HCell.out HOne.out HSz.out.1 HSz.out.2 hbase ?_; intro v5 w5 hown5 hgr5 _)
    have hb5 : Below w.heap.size (w.alloc (.cells #[] 25)) w5 := (Below.refl _ _).grown hgr5 hbase (fun k hk => (HOw.out.lt k hk).1)
    have HR : Hid (Mine 25 w5 w.heap.size v5 t) := Lib.hid (by
      unfold Mine
      rw [Nat.zero_add, List.nil_append] at hown5
      exact hown5)
    clear hown5 hgr5
    go_wp2
    go_ret
    exact ⟨⟨_, rfl, HR.out⟩, hb1.trans hb5⟩
  rcases hv with ⟨rfl, a, cap, rfl, hm⟩ | ⟨hne, g, o, cap, rfl, hg, hcap, hm, hcell⟩
  · cases a with
    | none =>
      have hnil := fun w => Lib.run_eql_slice_nil (P := Try.prog) w 22 25 none 0 cap 0 0 Try.underlying22
      clear key
      go_enter Try.func24, Try.ntmps24
      go_wp2
      go_ret
      exact ⟨⟨_, rfl, Mine.nil _ _ _⟩, Below.refl _ _⟩
    | some a => exact key a cap rfl fun j u hj => by simp at hj
  · exact key ⟨g, o, none⟩ cap rfl hcell.news

def fAhead : Value := .func (.func 20) #[] #[]
def boxO : Obj := .cells #[.func (.func 20) #[] #[]] 58
theorem enters_ahead (args : Array Value) (w : World) : (callFunc 20 args).run Try.prog w = .ok (.enter 20 args) w := by kernel_rfl
set_option maxHeartbeats 1000000 in
set_option maxRecDepth 100000 in
theorem where1_any (x e : E) {c d : Nat} (w : World) (hc : w.heap[c]? = some boxO) (hd : w.heap[d]? = some (boxU e)) :
    Calls Try.prog 34 #[val x, .pointer (some ⟨c, 0, none⟩), .pointer (some ⟨d, 0, none⟩)] w fun r w' => r = .returned (.bool (ahead e x)) ∧ Below w.heap.size w w' := by
  obtain ⟨W, hW⟩ : ∃ W, W = w.alloc (boxU x) := ⟨_, rfl⟩
  have hwW : Below w.heap.size w W := by rw [hW]; exact (Below.refl _ _).alloc (Nat.le_refl _) _
  have hb : W.heap[w.heap.size]? = some (boxU x) := by rw [hW]; exact heap_alloc_new _ _
  have hcl := (Array.getElem?_eq_some_iff.1 hc).1
  have hdl := (Array.getElem?_eq_some_iff.1 hd).1
  have c0 := cellB ((hwW.block c hcl).trans hc) (i := 0) rfl
  obtain ⟨d0, d1⟩ := cellsU ((hwW.block d hdl).trans hd)
  obtain ⟨b0, b1⟩ := cellsU hb
  have HB := Lib.hid hwW
  have HW := Lib.hid hW
  have HA := Lib.hid (ahead_any e x W)
  obtain ⟨i, p⟩ := x
  obtain ⟨j, q⟩ := e
  unfold boxU at HW
  unfold val at HA ⊢
  simp only at b0 b1 d0 d1 HA ⊢
  clear hc hd hW hb hwW hcl hdl
  go_enter Try.func34, Try.ntmps34
  go_upto_region 1 with fail
  rw [← HW.out]
  clear HW
  go_wp2_with fail
  (with_reducible refine HA.out.mono ?_)
  rintro _ wq ⟨rfl, hbq⟩
  go_wp2
  go_ret
  exact ⟨rfl, HB.out.trans (hbq.mono HB.out.size)⟩
theorem enters_where (args : Array Value) (w : World) : (callFunc 34 args).run Try.prog w = .ok (.enter 34 args) w := by kernel_rfl

/-- Where one goes. -/
def whereN (q : List E) (e : E) : Nat := q.findIdx (fun x => ahead e x)
theorem where_le (q : List E) (e : E) : whereN q e ≤ q.length := List.findIdx_le_length
theorem where_cases (q : List E) (e : E) : (idxI (fun x => ahead e x) q = -1 ∧ whereN q e = q.length) ∨ ((idxI (fun x => ahead e x) q = (whereN q e : Int)) ∧ whereN q e < q.length) := by
  unfold idxI whereN
  cases h : q.findIdx? (fun x => ahead e x) with
  | none => exact .inl ⟨rfl, List.findIdx_eq_length.2 (List.findIdx?_eq_none_iff.1 h)⟩
  | some k =>
    obtain ⟨h1, h2⟩ := List.findIdx?_eq_some_iff_findIdx_eq.1 h
    exact .inr ⟨by rw [h2], by omega⟩
theorem insL_where (q : List E) (e : E) : insL e q = q.take (whereN q e) ++ e :: q.drop (whereN q e) := by
  refine insL_at e q _ (where_le q e) (fun j x hj hx => ?_) (fun x hx => ?_)
  · have := List.not_of_lt_findIdx (p := fun x => ahead e x) (xs := q) (i := j) hj
    rw [(List.getElem?_eq_some_iff.1 hx).2] at this
    simpa using this
  · obtain ⟨hl, hx⟩ := List.getElem?_eq_some_iff.1 hx
    rw [← hx]
    exact List.findIdx_getElem (w := hl)

set_option maxHeartbeats 1000000 in
set_option maxRecDepth 100000 in
theorem placeOf_any (v : Value) (t : List E) (e : E) (w : World) (hv : Row w v t) :
    Calls Try.prog 28 #[.agg #[.func (.func 20) #[] #[]], v, val e] w fun r w' => r = .returned (.int .i64 (whereN t e : Int)) ∧ Below w.heap.size w w' := by
  obtain ⟨W, hW⟩ : ∃ W, W = (w.alloc boxO).alloc (boxU e) := ⟨_, rfl⟩
  have hb1 : Below w.heap.size w (w.alloc boxO) := (Below.refl _ _).alloc (Nat.le_refl _) _
  have hwW : Below w.heap.size w W := by rw [hW]; exact hb1.alloc (by simp) _
  have hc : W.heap[w.heap.size]? = some boxO := by
    rw [hW]
    exact (Below.block ((Below.refl _ _).alloc (Nat.le_refl _) _) w.heap.size (by simp)).trans (heap_alloc_new _ _)
  have hd : W.heap[w.heap.size + 1]? = some (boxU e) := by
    rw [hW]
    have := heap_alloc_new (w.alloc boxO) (boxU e)
    simpa using this
  have hsz : w.heap.size + 1 < W.heap.size := (Array.getElem?_eq_some_iff.1 hd).1
  have HI := Lib.hid (indexU_any (fun x => ahead e x) _ #[.pointer (some ⟨w.heap.size, 0, none⟩), .pointer (some ⟨w.heap.size + 1, 0, none⟩)] enters_where v t W (hv.below hwW) fun wr x hb _ => where1_any x e wr ((hb.block w.heap.size (by omega)).trans hc) ((hb.block (w.heap.size + 1) (by omega)).trans hd))
  have hln := hv.len
  have hcs := where_cases t e
  obtain ⟨a, vc, rfl, _, _⟩ := hv.slice
  have HB := Lib.hid hwW
  have HW := Lib.hid hW
  obtain ⟨k, hk⟩ : ∃ k, whereN t e = k := ⟨_, rfl⟩
  rw [hk] at hcs ⊢
  obtain ⟨j, q⟩ := e
  unfold boxO boxU at HW
  unfold val
  simp only
  clear hv hwW hW hc hd hb1 hk hsz
  rcases hcs with ⟨h1, rfl⟩ | ⟨h1, h2⟩
  · rw [h1] at HI
    clear h1
    go_enter Try.func28, Try.ntmps28
    go_upto_region 1 with fail
    rw [← HW.out]
    clear HW
    go_wp2_with fail
    (with_reducible refine HI.out.mono ?_)
    rintro _ wq ⟨rfl, hbq⟩
    go_wp2
    go_ret
    exact ⟨rfl, HB.out.trans (hbq.mono HB.out.size)⟩
  · rw [h1] at HI
    have hk0 : ¬ ((k : Int) < 0) := by omega
    clear h1 h2
    go_enter Try.func28, Try.ntmps28
    go_upto_region 1 with fail
    rw [← HW.out]
    clear HW
    go_wp2_with fail
    (with_reducible refine HI.out.mono ?_)
    rintro _ wq ⟨rfl, hbq⟩
    go_wp2
    go_ret
    exact ⟨rfl, HB.out.trans (hbq.mono HB.out.size)⟩
end Go.Proofs.Ytimaehaaidjokaa.Queue
