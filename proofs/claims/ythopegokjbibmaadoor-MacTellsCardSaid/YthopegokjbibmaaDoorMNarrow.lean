/- What mac.narrowBy, mac.Narrow and mac.Check answer, of any token, caveats and key; of memory that was there nothing turns. -/
import Derived.Test.YthopegokjbibmaaDoorMConcat
import Derived.Deep.RegionWith
namespace Go.Proofs.YthopegokjbibmaaDoor.Mac
open Go.RowKit Go.Proofs.YthopegokjbibmaaDoor.Sha
open Go.Proofs.YthopegokjbibmaaDoor.Boxes (set3 set3_box set3_below cells3 keep)

theorem chainL_le {N : Nat} (h32 : 32 ≤ N) : ∀ (cs : List Cav) {sig : List UInt8}, sig.length ≤ N → (chainL sig cs).length ≤ N
  | [], sig, h => h
  | c :: r, sig, _ => chainL_le h32 r (sig := signL sig (putC c)) (by rw [signL_len]; exact h32)
theorem cell_set2 {w : World} {T : Nat} {x y z v : Value} {t : TypeId} (h : w.heap[T]? = some (.cells #[x, y, z] t)) : (w.setCell ⟨T, 2, none⟩ v).heap[T]? = some (.cells #[x, y, v] t) := heap_setCell_same w T 2 _ _ v h
theorem cell_set1 {w : World} {T : Nat} {x y z v : Value} {t : TypeId} (h : w.heap[T]? = some (.cells #[x, y, z] t)) : (w.setCell ⟨T, 1, none⟩ v).heap[T]? = some (.cells #[x, v, z] t) := heap_setCell_same w T 1 _ _ v h
theorem set_else {w : World} {T i b : Nat} {v : Value} {o : Option Obj} (h : w.heap[b]? = o) (hn : b ≠ T) : (w.setCell ⟨T, i, none⟩ v).heap[b]? = o := (Below.heap_setCell w _ v b hn).trans h

/-- What narrowBy has laid. -/
def Nb (w : World) (ten : ByteArray) (v : Value) (X : ByteArray) (wr : World) : Prop :=
  Below w.heap.size w wr ∧ wr.heap[w.heap.size]? = some (.cells #[.string ten, v, .string X] 24) ∧
    wr.heap[w.heap.size + 1]? = some (.cells #[.string ⟨#[]⟩, .slice none 0 0, .string ⟨#[]⟩] 24)
theorem Nb.start (w : World) (ten : ByteArray) (v : Value) (X : ByteArray) : Nb w ten v X ((w.alloc (.cells #[.string ten, v, .string X] 24)).alloc (.cells #[.string ⟨#[]⟩, .slice none 0 0, .string ⟨#[]⟩] 24)) := by
  refine ⟨((Below.refl _ _).alloc (Nat.le_refl _) _).alloc (by simp) _, ?_, ?_⟩
  · rw [heap_alloc_old _ _ (by simp)]
    exact heap_alloc_new _ _
  · have := heap_alloc_new (w.alloc (.cells #[.string ten, v, .string X] 24)) (.cells #[.string ⟨#[]⟩, .slice none 0 0, .string ⟨#[]⟩] 24)
    rwa [World.size_alloc] at this
theorem Nb.more {w wr w' : World} {ten X : ByteArray} {v : Value} (h : Nb w ten v X wr) (hb : Below wr.heap.size wr w') : Nb w ten v X w' :=
  ⟨h.1.trans (hb.mono h.1.size), keep h.2.1 hb, keep h.2.2 hb⟩
theorem Nb.sig {w wr : World} {ten X : ByteArray} {v : Value} (h : Nb w ten v X wr) (Y : ByteArray) : Nb w ten v Y (wr.setCell ⟨w.heap.size, 2, none⟩ (.string Y)) :=
  ⟨h.1.setCell (Nat.le_refl _) _, cell_set2 h.2.1, set_else h.2.2 (by omega)⟩
theorem Nb.row {w wr : World} {ten X : ByteArray} {v : Value} (h : Nb w ten v X wr) (u : Value) : Nb w ten u X (wr.setCell ⟨w.heap.size, 1, none⟩ u) :=
  ⟨h.1.setCell (Nat.le_refl _) _, cell_set1 h.2.1, set_else h.2.2 (by omega)⟩

set_option maxHeartbeats 2000000 in
set_option maxRecDepth 100000 in
theorem narrowBy_any (ten sig : ByteArray) (v u : Value) (l cs : List Cav) (hs : sig.size ≤ 1125899906842624) (w : World) (hR : Roots w) (hv : Row w v l) (hu : Row w u cs) (hz : l.length + cs.length ≤ 1000000) :
    Calls Tryd.prog 28 #[.agg #[.string ten, v, .string sig], u] w fun e w' => (∃ v', e = .returned (.agg #[.string ten, v', .string (str (chainL sig.data.toList cs))]) ∧ Mine w' w.heap.size v' (l ++ cs)) ∧ Below w.heap.size w w' := by
  obtain ⟨a1, cap1, rfl, _, _⟩ := hv.slice
  obtain ⟨a2, cap2, rfl, _, _⟩ := hu.slice
  have HR := Lib.hid hR
  have HV := Lib.hid hv
  have HU := Lib.hid hu
  have HS := Lib.hid (Nb.start w ten (.slice a1 l.length cap1) sig)
  obtain ⟨n1, hn1⟩ : ∃ n, l.length = n := ⟨_, rfl⟩
  obtain ⟨n2, hn2⟩ : ∃ n, cs.length = n := ⟨_, rfl⟩
  have HN1 := Lib.hid hn1
  have HN2 := Lib.hid hn2
  rw [hn1] at HS HV ⊢
  rw [hn2] at HU ⊢
  rw [hn1, hn2] at hz
  clear hR hv hu hn1 hn2
  go_enter Tryd.func28, Tryd.ntmps28
  go_wp2
  go_loopw [9] (fun i wr => ∃ (k : Nat) (X : ByteArray), k ≤ n2 ∧ i = .int .i64 k ∧ X = str (chainL sig.data.toList (cs.take k)) ∧ Nb w ten (.slice a1 n1 cap1) X wr) (fun i _ => n2 - (intOf i).toNat)
  case atStart => exact ⟨0, sig, Nat.zero_le _, rfl, by rw [List.take_zero]; exact (str_of sig).symm, HS.out⟩
  case round =>
    obtain ⟨k, X, hk, rfl, hX, hN⟩ := hrel
    clear HS
    by_cases hlt : k < n2
    · have hltz : (k : Int) < (n2 : Int) := by omega
      have hltc : k < cs.length := by have := HN2.out; omega
      obtain ⟨g, o, rfl, hg, hcell⟩ := HU.out.cells hltc
      obtain ⟨x, hx⟩ : ∃ x, cs[k]? = some x := ⟨_, List.getElem?_eq_getElem hltc⟩
      obtain ⟨hfx, hc1, hc2⟩ := hcell.below hg hN.1 k x hx
      have hXs : X.size ≤ 1125899906842624 := by rw [hX, str_size]; exact chainL_le (by omega) _ (by rw [size_list]; exact hs)
      have HN : Hid (str (chainL sig.data.toList (cs.take (k + 1))) = str (signL X.data.toList (putC x))) := Lib.hid (by rw [List.take_add_one, hx, hX, str_toList]; exact congrArg str (chainL_snoc _ _ _))
      have hst := Lib.hid (putCaveat_any x hfx.2.2)
      have hpc := putC_len hfx.2.2
      have hsg : Hid (∀ w', Roots w' → Calls Tryd.prog 17 #[.string X, .string (str (putC x))] w' fun e w'' => e = .returned (.string (str (signL X.data.toList (putC x)))) ∧ Below w'.heap.size w' w'') := Lib.hid (fun w' h => by
        have := sign_any X (str (putC x)) hXs (by rw [str_size]; omega) w' h
        rwa [str_toList] at this)
      obtain ⟨x1, x2⟩ := x
      obtain ⟨P, hP⟩ : ∃ P, str (putC (x1, x2)) = P := ⟨_, rfl⟩
      obtain ⟨Y, hY⟩ : ∃ Y, str (signL X.data.toList (putC (x1, x2))) = Y := ⟨_, rfl⟩
      rw [hP] at hst hsg
      rw [hY] at hsg HN
      have HY := Lib.hid hY
      unfold val at hst
      have hN1 : Nb w ten (.slice a1 n1 cap1) X (wr.alloc (.cells #[.int .i64 x1, .int .u64 (x2 : Int)] 27)) := hN.more ((Below.refl _ _).alloc (Nat.le_refl _) _)
      obtain ⟨d0, d1, _⟩ := cells2 (heap_alloc_new wr (.cells #[.int .i64 x1, .int .u64 (x2 : Int)] 27))
      have hdl : wr.heap.size < (wr.alloc (.cells #[.int .i64 x1, .int .u64 (x2 : Int)] 27)).heap.size := by simp
      clear hx hcell hfx hpc hP hY hX hN
      go_wp2_with fail
      obtain ⟨W, hW⟩ : ∃ W, W = wr.alloc (.cells #[.int .i64 x1, .int .u64 (x2 : Int)] 27) := ⟨_, rfl⟩
      obtain ⟨C, hC⟩ : ∃ C, C = wr.heap.size := ⟨_, rfl⟩
      rw [← hW] at hN1 d0 d1 hdl ⊢
      rw [← hC] at d0 d1 hdl ⊢
      clear hW hC hc1 hc2
      obtain ⟨_, _, t2, _, _, f2⟩ := cells3 hN1.2.1
      have htl := (Array.getElem?_eq_some_iff.1 hN1.2.1).1
      have hN1' : Nb w ten (.slice a1 n1 cap1) X W.drew := hN1.more (Below.refl _ _).drew
      have HNN := Lib.hid hN1'
      have HRW := Lib.hid (HR.out.below hN1'.1)
      clear hN1 hN1'
      go_region_with (first
        | (go_at_call 44; (with_reducible refine (hst.out _).mono ?_); rintro e w5 ⟨rfl, hb5⟩; have q2 := (hb5.cell (p := ⟨w.heap.size, 2, none⟩) (by simpa using htl)).trans (by simpa using t2); have q3 := (hb5.frozen (p := ⟨w.heap.size, 2, none⟩) (by simpa using htl)).trans (by simpa using f2); have R5 := HRW.out.below hb5)
        | (go_at_call 17; (with_reducible refine (hsg.out _ R5).mono ?_); rintro e w6 ⟨rfl, hb6⟩; have htl5 := Nat.lt_of_lt_of_le htl hb5.size; have q4 := (hb6.cell (p := ⟨w.heap.size, 2, none⟩) htl5).trans q2; have q5 := (hb6.frozen (p := ⟨w.heap.size, 2, none⟩) htl5).trans q3))
      all_goals
        have HQ := Lib.hid (((HNN.out.more hb5).more hb6).sig Y)
        clear q2 q3 q4 q5 hb5 hb6 t2 f2 d0 d1
        go_wp2
        go_roundw
        case rel => exact ⟨k + 1, Y, by omega, by go_num, HN.out.symm, HQ.out⟩
        case measure => simp [intOf]; omega
    · have hltz : ¬ (k : Int) < (n2 : Int) := by omega
      have HX : Hid (str (chainL sig.data.toList cs) = X) := Lib.hid (by rw [hX, List.take_of_length_le (by have := HN2.out; omega)])
      obtain ⟨t0, t1, t2, f0, f1, f2⟩ := cells3 hN.2.1
      have hN1 := hN.more ((Below.refl _ _).alloc (Nat.le_refl _) (.cells #[.slice a1 n1 cap1, .slice a2 n2 cap2] 22))
      have HC := Lib.hid (concat_any wr.heap.size 2 _ _ l cs _ (wr.alloc (.cells #[.slice a1 n1 cap1, .slice a2 n2 cap2] 22)) (heap_alloc_new _ _) (HV.out.below hN1.1) (HU.out.below hN1.1) (by rw [HN1.out, HN2.out]; exact hz))
      have HNN := Lib.hid hN1
      clear hX hN hN1
      go_wp2_with fail
      with_reducible refine HC.out.mono ?_
      rintro e w5 ⟨⟨v', rfl, hrow⟩, hb5⟩
      have hN5 := HNN.out.more hb5
      have hN6 := hN5.row v'
      have hTB : w.heap.size + 1 < (wr.alloc (.cells #[.slice a1 n1 cap1, .slice a2 n2 cap2] 22)).heap.size := (Array.getElem?_eq_some_iff.1 HNN.out.2.2).1
      have HO := Lib.hid (((((hrow.set (T := w.heap.size) (i := 1) (u := v') (by omega)).set (T := w.heap.size + 1) (i := 0) (u := .string ten) hTB).set (T := w.heap.size + 1) (i := 1) (u := v') hTB).set (T := w.heap.size + 1) (i := 2) (u := .string X) hTB).base (B' := w.heap.size) (by omega))
      obtain ⟨a', cap', hv', _, _⟩ := hrow.slice
      obtain ⟨n', hn'⟩ : ∃ n, (l ++ cs).length = n := ⟨_, rfl⟩
      rw [hn'] at hv'
      subst hv'
      obtain ⟨_, t1, _, _, f1, _⟩ := cells3 hN5.2.1
      obtain ⟨s0, s1, s2, _⟩ := cells3 hN6.2.1
      obtain ⟨r0, r1, r2, g0, g1, g2⟩ := cells3 hN6.2.2
      have hres := set3_box hN6.2.2 (.string ten) (.slice a' n' cap') (.string X)
      have hbl := set3_below (T := w.heap.size + 1) (a := .string ten) (b := .slice a' n' cap') (c := .string X) hN6.1 (Nat.le_succ _)
      unfold set3 at hres hbl
      obtain ⟨e0, e1, e2, _⟩ := cells3 hres
      clear hrow hres hn' hb5 hN5 hN6 HNN hTB
      go_wp2
      refine bodyPost_ret (v := .agg #[.string ten, .slice a' n' cap', .string X]) (by simp [results, Tryd.results28, go_sem, e0, e1, e2]) rfl ⟨⟨_, by rw [HX.out], HO.out⟩, hbl⟩

set_option maxHeartbeats 2000000 in
set_option maxRecDepth 100000 in
theorem narrow_any (ten sig : ByteArray) (v : Value) (l : List Cav) (c : Cav) (hc : Fair c) (hs : sig.size ≤ 1125899906842624) (w : World) (hR : Roots w) (hv : Row w v l) (hz : l.length ≤ 999999) :
    Calls Tryd.prog 11 #[.agg #[.string ten, v, .string sig], val c] w fun e w' => (∃ v', e = .returned (.agg #[.string ten, v', .string (str (signL sig.data.toList (putC c)))]) ∧ Mine w' w.heap.size v' (l ++ [c])) ∧ Below w.heap.size w w' := by
  obtain ⟨x1, x2⟩ := c
  obtain ⟨a1, cap1, rfl, _, _⟩ := hv.slice
  have hb1 : Below w.heap.size w (w.alloc (.cells #[.string ten, .slice a1 l.length cap1, .string sig] 24)) := (Below.refl _ _).alloc (Nat.le_refl _) _
  have hb2 := hb1.alloc hb1.size (.cells #[.int .i64 x1, .int .u64 (x2 : Int)] 27)
  have hb3 := hb2.alloc hb2.size (.cells #[.string ⟨#[]⟩, .slice none 0 0, .string ⟨#[]⟩] 24)
  have hb4 := hb3.alloc hb3.size (.cells #[.int .i64 x1, .int .u64 (x2 : Int)] 27)
  have hh := heap_alloc_new ((w.alloc (.cells #[.string ten, .slice a1 l.length cap1, .string sig] 24)).alloc (.cells #[.int .i64 x1, .int .u64 (x2 : Int)] 27)) (.cells #[.string ⟨#[]⟩, .slice none 0 0, .string ⟨#[]⟩] 24)
  rw [World.size_alloc, World.size_alloc] at hh
  have hh4 := keep hh ((Below.refl _ _).alloc (Nat.le_refl _) (.cells #[.int .i64 x1, .int .u64 (x2 : Int)] 27))
  have hrow : Row ((((w.alloc (.cells #[.string ten, .slice a1 l.length cap1, .string sig] 24)).alloc (.cells #[.int .i64 x1, .int .u64 (x2 : Int)] 27)).alloc (.cells #[.string ⟨#[]⟩, .slice none 0 0, .string ⟨#[]⟩] 24)).alloc (.cells #[.int .i64 x1, .int .u64 (x2 : Int)] 27)) (.slice (some ⟨w.heap.size + 1 + 1 + 1, 0, none⟩) 1 1) [(x1, x2)] := by
    refine .inr ⟨by simp, w.heap.size + 1 + 1 + 1, 0, 1, rfl, by simp, by simp, by unfold maxLen; omega, fun j x hj => ?_⟩
    have hn := heap_alloc_new (((w.alloc (.cells #[.string ten, .slice a1 l.length cap1, .string sig] 24)).alloc (.cells #[.int .i64 x1, .int .u64 (x2 : Int)] 27)).alloc (.cells #[.string ⟨#[]⟩, .slice none 0 0, .string ⟨#[]⟩] 24)) (.cells #[.int .i64 x1, .int .u64 (x2 : Int)] 27)
    rw [World.size_alloc, World.size_alloc, World.size_alloc] at hn
    obtain ⟨k0, k1, _⟩ := cells2 hn
    obtain ⟨hj0, rfl⟩ := List.getElem?_eq_some_iff.1 hj
    simp at hj0
    subst hj0
    exact ⟨hc, k0, k1⟩
  have HN := Lib.hid (narrowBy_any ten sig _ _ l [(x1, x2)] hs _ (hR.below hb4) (hv.below hb4) hrow (by simp; omega))
  have hch : chainL sig.data.toList [(x1, x2)] = signL sig.data.toList (putC (x1, x2)) := rfl
  rw [hch] at HN
  obtain ⟨Y, hY⟩ : ∃ Y, str (signL sig.data.toList (putC (x1, x2))) = Y := ⟨_, rfl⟩
  rw [hY] at HN ⊢
  clear hrow hR hv hY hch
  unfold val
  go_enter Tryd.func11, Tryd.ntmps11
  go_wp2_with fail
  with_reducible refine HN.out.mono ?_
  rintro e w5 ⟨⟨v', rfl, hown⟩, hb5⟩
  have hb := hb4.trans (hb5.mono hb4.size)
  have hh5 := keep hh4 hb5
  have hlt := (Array.getElem?_eq_some_iff.1 hh4).1
  have HO := Lib.hid ((((hown.set (T := w.heap.size + 1 + 1) (i := 0) (u := .string ten) hlt).set (T := w.heap.size + 1 + 1) (i := 1) (u := v') hlt).set (T := w.heap.size + 1 + 1) (i := 2) (u := .string Y) hlt).base (B' := w.heap.size) (by omega))
  obtain ⟨a', cap', hv', _, _⟩ := hown.slice
  obtain ⟨n', hn'⟩ : ∃ n, (l ++ [(x1, x2)]).length = n := ⟨_, rfl⟩
  rw [hn'] at hv'
  subst hv'
  obtain ⟨r0, r1, r2, g0, g1, g2⟩ := cells3 hh5
  have hres := set3_box hh5 (.string ten) (.slice a' n' cap') (.string Y)
  have hbl := set3_below (T := w.heap.size + 1 + 1) (a := .string ten) (b := .slice a' n' cap') (c := .string Y) hb (by omega)
  unfold set3 at hres hbl
  obtain ⟨e0, e1, e2, _⟩ := cells3 hres
  clear hown hres hn' hb5 hb4 hb3 hb2 hb1 hh hh4 hh5 hlt HN
  go_wp2
  refine bodyPost_ret (v := .agg #[.string ten, .slice a' n' cap', .string Y]) (by simp [results, Tryd.results11, go_sem, e0, e1, e2]) rfl ⟨⟨_, rfl, HO.out⟩, hbl⟩

theorem may_len {ls : List Cav} (h : mayL ls = true) : ls.length ≤ 8 ∧ ∀ c ∈ ls, strange c = false := by
  unfold mayL at h
  rw [Bool.and_eq_true, decide_eq_true_eq, Bool.not_eq_true'] at h
  exact ⟨h.1, fun c hc => by have := List.any_eq_false.1 h.2 c hc; simpa using this⟩
set_option maxRecDepth 100000 in
theorem field_sig (a : Option Addr) (n c : Nat) (x y : ByteArray) (w : World) : (Instr.field 24 (.agg #[.string x, .slice a n c, .string y]) 2).run Tryd.prog w = .ok (.string y) w := by kernel_rfl
set_option maxHeartbeats 4000000 in
set_option maxRecDepth 100000 in
theorem check_any (key ten sig : ByteArray) (v : Value) (ls : List Cav) (hk : key.size ≤ 1125899906842624) (ht : ten.size ≤ 1125899906842624) (w : World) (hR : Roots w) (hv : Row w v ls) (hl : ls.length ≤ 9223372036854775807) :
    Calls Tryd.prog 20 #[.string key, .agg #[.string ten, v, .string sig]] w fun e w' => e = .returned (.bool (checkL key.data.toList ten.data.toList ls sig.data.toList)) ∧ Below w.heap.size w w' := by
  obtain ⟨a, cap, rfl, _, _⟩ := hv.slice
  have hb0 : Below w.heap.size w (w.alloc (.cells #[.string ten, .slice a ls.length cap, .string sig] 24)) := (Below.refl _ _).alloc (Nat.le_refl _) _
  have hh0 := heap_alloc_new w (.cells #[.string ten, .slice a ls.length cap, .string sig] 24)
  have hlt : w.heap.size < (w.alloc (.cells #[.string ten, .slice a ls.length cap, .string sig] 24)).heap.size := by simp
  obtain ⟨c0, c1, c2, _⟩ := cells3 hh0
  obtain ⟨m, hm⟩ : ∃ m, mayL ls = m := ⟨_, rfl⟩
  have HM : Hid (∀ w', Below w.heap.size w w' → Calls Tryd.prog 39 #[.slice a ls.length cap] w' fun e w'' => e = .returned (.bool m) ∧ Below w'.heap.size w' w'') := Lib.hid (fun w' h => by rw [← hm]; exact may_any _ ls w' (hv.below h) hl)
  cases m with
  | false =>
    have HE : Hid (checkL key.data.toList ten.data.toList ls sig.data.toList = false) := Lib.hid (by unfold checkL; rw [hm]; rfl)
    clear hv hm hR
    go_enter Tryd.func20, Tryd.ntmps20
    go_wp2
    obtain ⟨W, hW⟩ : ∃ W, W = w.alloc (.cells #[.string ten, .slice a ls.length cap, .string sig] 24) := ⟨_, rfl⟩
    rw [← hW] at hb0 c0 c1 c2 hlt ⊢
    clear hW hh0
    have HM' : Hid (∀ p : Quiet.Behind W, Calls Tryd.prog 39 #[.slice a ls.length cap] p.world fun e w'' => e = .returned (.bool false) ∧ Below p.world.heap.size p.world w'') := Lib.hid fun p => HM.out _ (hb0.trans (p.below.mono hb0.size))
    have k1 := Quiet.cell (a := ⟨w.heap.size, 1, none⟩) hlt c1
    clear c0 c1 c2 HM
    refine Quiet.region (by kernel_rfl) (by kernel_rfl) ?_
    repeat (go_big_quiet_step (first | (go_at_call 39; (with_reducible exact Quiet.calls (HM'.out _)))))
    refine wpQuiet_nil ?_
    rintro _ ⟨pq, rfl⟩
    have hq := pq.below
    generalize pq.world = wq at hq ⊢
    go_wp2
    go_ret
    exact ⟨by rw [HE.out]; rfl, hb0.trans (hq.mono hb0.size)⟩
  | true =>
    obtain ⟨h8, _⟩ := may_len hm
    obtain ⟨S0, hS0⟩ : ∃ S, str (signL key.data.toList ten.data.toList) = S := ⟨_, rfl⟩
    obtain ⟨S1, hS1⟩ : ∃ S, str (chainL S0.data.toList ls) = S := ⟨_, rfl⟩
    have hS0z : S0.size ≤ 1125899906842624 := by rw [← hS0, str_size, signL_len]; omega
    have HNew : Hid (∀ w', Roots w' → Calls Tryd.prog 12 #[.string key, .string ten] w' fun e w'' => e = .returned (.agg #[.string ten, .slice none 0 0, .string S0]) ∧ Below w'.heap.size w' w'') := Lib.hid fun w' h => by rw [← hS0]; exact new_any key ten hk ht w' h
    have HNar : Hid (∀ w', Roots w' → Below w.heap.size w w' → Calls Tryd.prog 28 #[.agg #[.string ten, .slice none 0 0, .string S0], .slice a ls.length cap] w' fun e w'' => (∃ a' n' c', e = .returned (.agg #[.string ten, .slice a' n' c', .string S1])) ∧ Below w'.heap.size w' w'') := Lib.hid fun w' h hb => by
      rw [← hS1]
      refine (narrowBy_any ten S0 _ _ [] ls hS0z w' h (Row.nil w') (hv.below hb) (by simp; omega)).mono ?_
      rintro e w'' ⟨⟨v', rfl, hown⟩, hb'⟩
      obtain ⟨a', c', rfl, _⟩ := hown.slice
      exact ⟨⟨a', _, c', rfl⟩, hb'⟩
    have HE : Hid (checkL key.data.toList ten.data.toList ls sig.data.toList = (S1.toList == sig.toList)) := Lib.hid (by
      unfold checkL
      rw [hm, ← hS1, ← hS0, str_toList, Bool.true_and, Lib.toList_data, Lib.toList_data, str_toList]
      rw [Bool.eq_iff_iff]
      simp)
    have HR := Lib.hid hR
    clear hv hm hR hS0 hS1 hS0z
    go_enter Tryd.func20, Tryd.ntmps20
    go_wp2
    obtain ⟨W, hW⟩ : ∃ W, W = w.alloc (.cells #[.string ten, .slice a ls.length cap, .string sig] 24) := ⟨_, rfl⟩
    rw [← hW] at hb0 c0 c1 c2 hlt ⊢
    clear hW hh0
    obtain ⟨T, hT⟩ : ∃ T, T = w.heap.size := ⟨_, rfl⟩
    rw [← hT] at c0 c1 c2 hlt ⊢
    clear hT
    have hs0 : Below W.heap.size W W.drew := (Below.refl _ _).drew
    have HB0 := Lib.hid hb0
    have hfs := fun a' n' c' => field_sig a' n' c' ten S1
    go_region_held3 (fun x => x.cell? ⟨T, 0, none⟩ = some (.string ten) ∧ x.cell? ⟨T, 1, none⟩ = some (.slice a ls.length cap) ∧ x.cell? ⟨T, 2, none⟩ = some (.string sig))
      (first | exact ⟨c0, c1, c2⟩ | (refine ⟨?_, ?_, ?_⟩ <;> assumption))
      (first
        | (go_at_call 39; (with_reducible refine (HM.out _ (HB0.out.trans (hs0.mono HB0.out.size))).mono ?_); rintro e w5 ⟨rfl, hb5⟩; have hq5 : Below W.heap.size W w5 := hs0.trans (hb5.mono hs0.size); have q0 := (hq5.cell (p := ⟨T, 0, none⟩) hlt).trans c0; have q1 := (hq5.cell (p := ⟨T, 1, none⟩) hlt).trans c1; have q2 := (hq5.cell (p := ⟨T, 2, none⟩) hlt).trans c2)
        | (go_at_call 12; (with_reducible refine (HNew.out _ (HR.out.below (HB0.out.trans (hq5.mono HB0.out.size)))).mono ?_); rintro e w6 ⟨rfl, hb6⟩; have hq6 : Below W.heap.size W w6 := hq5.trans (hb6.mono hq5.size); have q3 := (hq6.cell (p := ⟨T, 0, none⟩) hlt).trans c0; have q4 := (hq6.cell (p := ⟨T, 1, none⟩) hlt).trans c1; have q5 := (hq6.cell (p := ⟨T, 2, none⟩) hlt).trans c2)
        | (go_at_call 28; (with_reducible refine (HNar.out _ (HR.out.below (HB0.out.trans (hq6.mono HB0.out.size))) (HB0.out.trans (hq6.mono HB0.out.size))).mono ?_); rintro e w7 ⟨⟨a', n', c', rfl⟩, hb7⟩; have hq7 : Below W.heap.size W w7 := hq6.trans (hb7.mono hq6.size); have q6 := (hq7.cell (p := ⟨T, 0, none⟩) hlt).trans c0; have q7 := (hq7.cell (p := ⟨T, 1, none⟩) hlt).trans c1; have q8 := (hq7.cell (p := ⟨T, 2, none⟩) hlt).trans c2))
    all_goals
      go_wp2
      go_ret
      exact ⟨by rw [HE.out]; rfl, HB0.out.trans (hq7.mono HB0.out.size)⟩
end Go.Proofs.YthopegokjbibmaaDoor.Mac
