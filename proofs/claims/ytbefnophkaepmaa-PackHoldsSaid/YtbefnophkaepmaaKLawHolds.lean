/- PackHolds: where it fits each copy has room, and each slot of a copy matches: the walk, over what the calls say. -/
import Derived.Test.YtbefnophkaepmaaKHolds
import Derived.Test.YtbefnophkaepmaaPJ2
import Derived.Deep.RegionHeld3
namespace Go.Proofs.Ytbefnophkaepmaa.Pack
open Go.RowKit Go.Proofs.Ytbefnophkaepmaa.Label Go.Proofs.Ytbefnophkaepmaa.Sel Go.Proofs.Ytbefnophkaepmaa.Vec Go.Proofs.Ytbefnophkaepmaa.Texts

section
variable {ops : Array Oper} {j : Nat} {ρ : Operand → Value} {x y : Operand} {w : World} {b i : Nat}
theorem load_vecAt {n0 n1 n2 n3 : Int} (ho : Step.opAt ops j = some (.load 26 x)) (hx : ρ x = .pointer (some ⟨b, i, none⟩))
    (h : w.cell? ⟨b, i, none⟩ = some (.int .u64 n0) ∧ w.cell? ⟨b, i + 1, none⟩ = some (.int .u64 n1) ∧ w.cell? ⟨b, i + 2, none⟩ = some (.int .u64 n2) ∧ w.cell? ⟨b, i + 3, none⟩ = some (.int .u64 n3)) : Step.runAt Try.prog ops j ρ w = .ok (.value (.agg #[.int .u64 n0, .int .u64 n1, .int .u64 n2, .int .u64 n3])) w := by
  obtain ⟨h0, h1, h2, h3⟩ := h
  refine Step.run_of ho fun o hop => ?_
  unfold execOp
  rw [hop]
  simp only [hx]
  go_simp
theorem at_runO (g o m n c : Nat) (hm : m < n) (ts : TypeId) (e : TypeId) (hu : Try.prog.underlying ts = some (.slice e)) (sz : Nat) (hs : ∀ w, (sizeOf e).run Try.prog w = .ok sz w) (ho : Step.opAt ops j = some (.indexAddr ts x y)) (hx : ρ x = .slice (some ⟨g, o, none⟩) n c) (hy : ρ y = .int .i64 m) :
    Step.runAt Try.prog ops j ρ w = .ok (.value (.pointer (some ⟨g, o + m * sz, none⟩))) w := by
  have h1 : (m : Int) < (n : Int) := by omega
  have h0 : (0 : Int) ≤ (m : Int) := by omega
  refine Step.run_of ho fun o hop => ?_
  unfold execOp
  rw [hop]
  simp only [hx, hy]
  clear hm
  go_simp
theorem conv_run {n : Int} (ho : Step.opAt ops j = some (.convert 44 9 x)) (hx : ρ x = .slice (some ⟨b, 0, none⟩) 1 1) (h : w.cell? ⟨b, 0, none⟩ = some (.int .u8 n)) : Step.runAt Try.prog ops j ρ w = .ok (.value (.string (strOfNums [n]))) w := by
  have hc := run_convert_bytes_arg (P := Try.prog) w 44 5 Try.underlying44 Try.underlying5 b 0 1 1 [n] rfl (fun i hi => by
    obtain rfl : i = 0 := by omega
    exact h) 9 Try.underlying9
  refine Step.run_of ho fun o hop => ?_
  unfold execOp
  simp only [hop, Sem.run_bind, Sem.run_pure, Result.andThen_ok, hx, hc]
theorem cat_run {a c d : ByteArray} {t : TypeId} (hsz : a.size + c.size ≤ 9223372036854775807) (hd : a ++ c = d) (ho : Step.opAt ops j = some (.binOp .add 9 x y t)) (hx : ρ x = .string a) (hy : ρ y = .string c) : Step.runAt Try.prog ops j ρ w = .ok (.value (.string d)) w := by
  have hr := run_string_add_sum (P := Try.prog) w a c hsz
  rw [hd] at hr
  refine Step.run_of ho fun o hop => ?_
  unfold execOp
  rw [hop]
  simp only [hx, hy]
  clear hsz hd
  go_simp
theorem at_runT (g o m n c : Nat) (hm : m < n) (ts : TypeId) (e : TypeId) (hu : Try.prog.underlying ts = some (.slice e)) (hs : ∀ w, (sizeOf e).run Try.prog w = .ok 1 w) (ho : Step.opAt ops j = some (.indexAddr ts x y)) (hx : ρ x = .slice (some ⟨g, o, none⟩) n c) (hy : ρ y = .int .i64 m) :
    Step.runAt Try.prog ops j ρ w = .ok (.value (.pointer (some ⟨g, o + m, none⟩))) w := by
  have := at_runO (w := w) g o m n c hm ts e hu 1 hs ho hx hy
  rwa [Nat.mul_one] at this
theorem lss_run {p q : Nat} {t : TypeId} (h : p < q) (ho : Step.opAt ops j = some (.binOp .lss 3 x y t)) (hx : ρ x = .int .i64 p) (hy : ρ y = .int .i64 q) : Step.runAt Try.prog ops j ρ w = .ok (.value (.bool true)) w := by
  have h1 : (p : Int) < (q : Int) := by omega
  refine Step.run_of ho fun o hop => ?_
  unfold execOp
  rw [hop]
  simp only [hx, hy]
  clear h
  go_simp
theorem neS_run {a c : ByteArray} {e : Bool} {t : TypeId} (h : (a.toList == c.toList) = e) (ho : Step.opAt ops j = some (.binOp .neq 9 x y t)) (hx : ρ x = .string a) (hy : ρ y = .string c) : Step.runAt Try.prog ops j ρ w = .ok (.value (.bool (!e))) w := by
  refine Step.run_of ho fun o hop => ?_
  unfold execOp
  rw [hop]
  simp only [hx, hy]
  go_simp
end
theorem size_slot6 (w : World) : (sizeOf 47).run Try.prog w = .ok 6 w := by kernel_rfl
theorem size_str1 (w : World) : (sizeOf 9).run Try.prog w = .ok 1 w := by kernel_rfl
theorem size_vec4 (w : World) : (sizeOf 26).run Try.prog w = .ok 4 w := by kernel_rfl
def rowB (n : Int) : Obj := .cells #[.int .u8 n] 5
def zeroSl6 : Obj := .cells #[.string ⟨#[]⟩, .int .u64 0, .int .u64 0, .int .u64 0, .int .u64 0, .slice none 0 0] 47
theorem six_ok (nd : ByteArray) (a b c d : Int) (v : Value) (hv : v.oneCell' = true) : (#[Value.string nd, .int .u64 a, .int .u64 b, .int .u64 c, .int .u64 d, v] : Array Value).all (·.oneCell') = true := by
  have : v.oneCell' = true := hv
  simp only [List.all_toArray, List.all_cons, List.all_nil, this]
  rfl
theorem name_cat (k : Nat) (hk : k < 12) : (⟨#[110]⟩ : ByteArray) ++ strOfNums [((97 + k : Nat) : Int)] = nameN k := by
  have key : ∀ a : Fin 12, (⟨#[110]⟩ : ByteArray) ++ strOfNums [((97 + a.val : Nat) : Int)] = nameN a.val := by decide
  exact key ⟨k, hk⟩

theorem set6_heapS {w : World} {T : Nat} {nd : ByteArray} {f : Nat → Int} {lv : Value} (h : w.heap[T]? = some (boxSl nd f lv)) (nd' : ByteArray) (x : Nat → Int) (lv' : Value) :
    ((((((w.setCell ⟨T, 0, none⟩ (.string nd')).setCell ⟨T, 1, none⟩ (.int .u64 (x 0))).setCell ⟨T, 2, none⟩ (.int .u64 (x 1))).setCell ⟨T, 3, none⟩ (.int .u64 (x 2))).setCell ⟨T, 4, none⟩ (.int .u64 (x 3))).setCell ⟨T, 5, none⟩ lv').heap[T]? = some (boxSl nd' x lv') := by
  unfold boxSl at *
  have h1 := heap_setCell_same w T 0 _ _ (.string nd') h
  have h2 := heap_setCell_same _ T 1 _ _ (.int .u64 (x 0)) h1
  have h3 := heap_setCell_same _ T 2 _ _ (.int .u64 (x 1)) h2
  have h4 := heap_setCell_same _ T 3 _ _ (.int .u64 (x 2)) h3
  have h5 := heap_setCell_same _ T 4 _ _ (.int .u64 (x 3)) h4
  have h6 := heap_setCell_same _ T 5 _ _ lv' h5
  rw [h6]
  rfl

set_option maxHeartbeats 4000000 in
set_option maxRecDepth 100000 in
theorem packHolds_any (S : Says) (v0 v u : Value) (fr : List (Nat → Int)) (sl : List Slot) (ts : List Tm) (d : Nat → Int) (n : Int) (w : World) (h0 : VcRow w v0 fr) (hv : SlRow w v sl) (hu : TRow w u ts) (hf : Sel.Fair ts) (hd : InRange d) (hn : 0 ≤ n ∧ n ≤ 255) :
    Calls Try.prog 5 #[v0, v, u, vec (d 0) (d 1) (d 2) (d 3), .int .u8 n] w fun e w' => e = .returned (.bool true) ∧ Below w.heap.size w w' := by
  have hl := hv.len
  obtain ⟨a, cap, rfl, _, _⟩ := hv.slice
  obtain ⟨fa, fc, rfl, hfc, hfm⟩ : ∃ fa fc, v0 = .slice fa fr.length fc ∧ fr.length ≤ fc ∧ fc ≤ maxLen := by
    rcases h0 with ⟨rfl, x, y, rfl, h⟩ | ⟨_, g, o, y, rfl, _, h1, h2, _⟩
    · exact ⟨x, y, rfl, Nat.zero_le _, h⟩
    · exact ⟨_, y, rfl, h1, h2⟩
  unfold maxLen at hfm
  obtain ⟨W, hW⟩ : ∃ W, W = w.alloc (boxV d) := ⟨_, rfl⟩
  have hwW : Below w.heap.size w W := by rw [hW]; exact (Below.refl _ _).alloc (Nat.le_refl _) _
  have hWs : W.heap.size = w.heap.size + 1 := by rw [hW]; simp
  have HB := Lib.hid (show W.heap[w.heap.size]? = some (boxV d) from by rw [hW]; exact heap_alloc_new _ _)
  have HV0 := Lib.hid (hv.below hwW)
  have HU := Lib.hid (fun w' (h : Below W.heap.size W w') => (hu.below hwW).below h)
  have HX := Lib.hid (examples_any S W)
  have HF := Lib.hid hf
  have HD := Lib.hid hd
  have HFr : Hid (∀ k, k < fr.length → ∃ g o, fa = some ⟨g, o, none⟩ ∧ g < w.heap.size ∧ ∃ x, fr[k]? = some x ∧ InRange x ∧ ∀ w', Below w.heap.size w w' → ∀ i, i < 4 → w'.cell? ⟨g, o + k * 4 + i, none⟩ = some (.int .u64 (x i))) := Lib.hid (fun k hk => by
    rcases h0 with ⟨rfl, _⟩ | ⟨_, g, o, y, e, hg, _, _, hc⟩
    · simp at hk
    · injection e with e1 _ _
      refine ⟨g, o, e1, hg, fr[k], List.getElem?_eq_getElem hk, (hc k _ (List.getElem?_eq_getElem hk)).2, fun w' hb i hi => ?_⟩
      exact (hb.cell (p := ⟨g, o + k * 4 + i, none⟩) hg).trans ((hc k _ (List.getElem?_eq_getElem hk)).1 i hi))
  obtain ⟨c, hc⟩ : ∃ c : Nat, (c : Int) = n % 9 := ⟨(n % 9).toNat, by omega⟩
  have hc8 : c ≤ 8 := by omega
  have CFit := Lib.hid (fun (x : Value) (xs : List Slot) w' (hx : SlRow w' x xs) (hxl : xs.length * 72 ≤ 140737488355328) (hb : Below W.heap.size W w') => (by
    have := S.fit x u xs ts d (c : Int) w' hx (HU.out w' hb) hf hd hxl (by omega)
    rw [show fitX d (c : Int) (seenAll ts xs) = fitL d c (seenAll ts xs) from by unfold fitX; rw [if_neg (by omega)]; rfl] at this
    exact this : Calls Try.prog 10 #[x, u, vec (d 0) (d 1) (d 2) (d 3), .int .i64 (c : Int)] w' fun e w'' => FitTold xs (fitL d c (seenAll ts xs)) e w'' ∧ Below w'.heap.size w' w''))
  have HW := Lib.hid hW
  unfold vec at CFit
  unfold vec
  unfold boxV at HW
  clear h0 hv hu hf hd hW S
  go_enter Try.func5, Try.ntmps5
  go_upto_region 1 with fail
  rw [← HW.out]
  clear HW
  go_wp2_with fail
  (with_reducible refine HX.out.mono ?_)
  rintro _ w1 ⟨rfl, b1⟩
  have H1 := Lib.hid b1
  clear HX b1
  go_wp2_with fail
  go_loopw [12, 13] (fun lv i wr => ∃ (k : Nat) (xs : List SV), k ≤ fr.length ∧ k ≤ 12 ∧ i = .int .i64 k ∧ xs.map (·.1) = made fr sl k ∧ SMine 47 wr W.heap.size lv xs ∧ (∀ p ∈ xs, Row W p.2 p.1.labs ∧ p.1.ok) ∧ Below W.heap.size W wr) (fun _ i _ => fr.length - (intOf i).toNat)
  case atStart => exact ⟨0, [], Nat.zero_le _, Nat.zero_le _, rfl, rfl, SMine.nil _ _ _, fun p hp => by simp at hp, H1.out⟩
  case round =>
    obtain ⟨k, xs, hk, hk12, rfl, hxm, hmine, hxr, hb⟩ := hrel
    have HMi := Lib.hid hmine
    obtain ⟨ta, tc, rfl⟩ := hmine.slice
    by_cases hlt : k < fr.length ∧ k < 12
    · obtain ⟨hlt, hlt12⟩ := hlt
      have hltz : (k : Int) < (fr.length : Int) := by omega
      have hk0 : (0 : Int) ≤ (k : Int) := by omega
      have hkz12 : (k : Int) < 12 := by omega
      obtain ⟨g, o, rfl, hg, x, hx, hxR, hcx⟩ := HFr.out k hlt
      have hbw : Below w.heap.size w wr := hwW.trans (hb.mono hwW.size)
      have HS : Hid (∀ w', Below wr.heap.size wr w' → w'.cell? ⟨g, o + k * 4, none⟩ = some (.int .u64 (x 0)) ∧ w'.cell? ⟨g, o + k * 4 + 1, none⟩ = some (.int .u64 (x 1)) ∧ w'.cell? ⟨g, o + k * 4 + 2, none⟩ = some (.int .u64 (x 2)) ∧ w'.cell? ⟨g, o + k * 4 + 3, none⟩ = some (.int .u64 (x 3))) := Lib.hid (fun w' h => by
        have hb' := hbw.trans (h.mono hbw.size)
        exact ⟨hcx w' hb' 0 (by decide), hcx w' hb' 1 (by decide), hcx w' hb' 2 (by decide), hcx w' hb' 3 (by decide)⟩)
      have HXr := Lib.hid hxr
      have HXM := Lib.hid hxm
      have HXx := Lib.hid (And.intro hx hxR)
      clear hmine hxr hxm hcx hx hxR hlt
      go_upto_region 8 with fail
      obtain ⟨q, hq⟩ : ∃ q : Int, q = ((97 + k : Nat) : Int) := ⟨_, rfl⟩
      have hb8 : IntKind.u8.wrap (97 + IntKind.u8.wrap (k : Int)) = q := by
        have e1 : IntKind.u8.wrap (k : Int) = (k : Int) := by rw [IntKind.wrap_u8] <;> omega
        rw [e1, IntKind.wrap_u8] <;> omega
      obtain ⟨q0, hq0⟩ : ∃ q0 : Int, q0 = IntKind.u8.wrap (k : Int) := ⟨_, rfl⟩
      rw [← hq0] at hb8
      have hd0 : Below wr.heap.size wr wr.drew := (Below.refl _ _).drew
      have g1 : Below wr.heap.size wr (wr.drew.alloc (rowB q)) := hd0.alloc hd0.size _
      have g2 : Below wr.heap.size wr (wr.drew.alloc zeroSl6) := hd0.alloc hd0.size _
      have g3 : Below wr.heap.size wr ((wr.drew.alloc (rowB q)).alloc zeroSl6) := g1.alloc g1.size _
      have g4 : Below wr.heap.size wr ((wr.drew.alloc zeroSl6).alloc (rowB q)) := g2.alloc g2.size _
      have e1 : (wr.drew.alloc (rowB q)).cell? ⟨wr.drew.heap.size, 0, none⟩ = some (.int .u8 q) := cell_at (heap_alloc_new _ _) rfl
      have e2 : ((wr.drew.alloc zeroSl6).alloc (rowB q)).cell? ⟨(wr.drew.alloc zeroSl6).heap.size, 0, none⟩ = some (.int .u8 q) := cell_at (heap_alloc_new _ _) rfl
      have e3 : ((wr.drew.alloc (rowB q)).alloc zeroSl6).cell? ⟨wr.drew.heap.size, 0, none⟩ = some (.int .u8 q) := (((Below.refl (wr.drew.alloc (rowB q)).heap.size _).alloc (Nat.le_refl _) zeroSl6).cell (p := ⟨wr.drew.heap.size, 0, none⟩) (by simp)).trans e1
      have z1 : ((wr.drew.alloc (rowB q)).alloc zeroSl6).heap[(wr.drew.alloc (rowB q)).heap.size]? = some zeroSl6 := heap_alloc_new _ _
      have z2 : ((wr.drew.alloc zeroSl6).alloc (rowB q)).heap[wr.drew.heap.size]? = some zeroSl6 := (((Below.refl (wr.drew.alloc zeroSl6).heap.size _).alloc (Nat.le_refl _) (rowB q)).block wr.drew.heap.size (by simp)).trans (heap_alloc_new _ _)
      have g5 := Whole.row_below g3 (g := (wr.drew.alloc (rowB q)).heap.size) (by simp) #[.string (nameN k), .int .u64 (x 0), .int .u64 (x 1), .int .u64 (x 2), .int .u64 (x 3), .slice none 0 0]
      have g6 := Whole.row_below g4 (g := wr.drew.heap.size) (Nat.le_refl _) #[.string (nameN k), .int .u64 (x 0), .int .u64 (x 1), .int .u64 (x 2), .int .u64 (x 3), .slice none 0 0]
      have hcat : (⟨#[110]⟩ : ByteArray) ++ strOfNums [q] = nameN k := by rw [hq]; exact name_cat k hlt12
      have hcz : (⟨#[110]⟩ : ByteArray).size + (strOfNums [q]).size ≤ 9223372036854775807 := by rw [strOfNums_size]; show 1 + 1 ≤ _; decide
      have HQ := Lib.hid (And.intro hb8 hq0)
      have HCat := Lib.hid hcat
      have HCz := Lib.hid hcz
      clear hq hb8 hq0 hcat hcz
      go_cut [14] (fun p wx => ∃ P, p = .pointer (some ⟨P, 0, none⟩) ∧ wr.heap.size ≤ P ∧ wx.heap[P]? = some (boxSl (nameN k) x (.slice none 0 0)) ∧ Below wr.heap.size wr wx)
      case first =>
        refine wp_region_held_drew (S := fun z => Below wr.heap.size wr z) (by kernel_rfl) hd0 (fun hHeld => ?_)
        (refine Step.take (i := 0) (d := some 35) (v := .int .i64 k) (by kernel_rfl) (by kernel_rfl) (by kernel_rfl) (by kernel_rfl) (by kernel_rfl) (fun _ _ _ h => h) hHeld (fun _ hSw => by kernel_rfl) ?_)
        (refine Step.take (i := 1) (d := some 36) (v := .int .u8 q0) (by kernel_rfl) (by kernel_rfl) (by kernel_rfl) (by kernel_rfl) (by kernel_rfl) (fun _ _ _ h => h) hHeld (fun _ hSw => by rw [HQ.out.2]; kernel_rfl) ?_)
        (refine Step.take (i := 2) (d := some 37) (v := .int .u8 q) (by kernel_rfl) (by kernel_rfl) (by kernel_rfl) (by kernel_rfl) (by kernel_rfl) (fun _ _ _ h => h) hHeld (fun _ hSw => by rw [← HQ.out.1]; kernel_rfl) ?_)
        (refine Step.take (i := 6) (d := some 41) (v := .slice (some ⟨g, o, none⟩) fr.length fc) (by kernel_rfl) (by kernel_rfl) (by kernel_rfl) (by kernel_rfl) (by kernel_rfl) (fun _ _ _ h => h) hHeld (fun _ hSw => by kernel_rfl) ?_)
        (refine Step.take (i := 7) (d := some 42) (v := .int .i64 k) (by kernel_rfl) (by kernel_rfl) (by kernel_rfl) (by kernel_rfl) (by kernel_rfl) (fun _ _ _ h => h) hHeld (fun _ hSw => by kernel_rfl) ?_)
        (refine Step.take (i := 8) (d := some 43) (v := .pointer (some ⟨g, o + k * 4, none⟩)) (by kernel_rfl) (by kernel_rfl) (by kernel_rfl) (by kernel_rfl) (by kernel_rfl) (fun _ _ _ h => h) hHeld (fun _ hSw => at_runO (x := .tmp 41) (y := .tmp 42) g o k fr.length fc (by omega) 43 26 Try.underlying43 4 size_vec4 (by kernel_rfl) (by kernel_rfl) (by kernel_rfl)) ?_)
        (refine Step.take (i := 9) (d := some 44) (v := .agg #[.int .u64 (x 0), .int .u64 (x 1), .int .u64 (x 2), .int .u64 (x 3)]) (by kernel_rfl) (by kernel_rfl) (by kernel_rfl) (by kernel_rfl) (by kernel_rfl) (fun _ _ _ h => h) hHeld (fun _ hSw => load_vecAt (x := .tmp 43) (by kernel_rfl) (by kernel_rfl) (HS.out _ hSw)) ?_)
        refine Step.two (i := 3) (j := 11) (by kernel_rfl) ⟨some 38, .slice (some ⟨wr.drew.heap.size, 0, none⟩) 1 1, wr.drew.alloc (rowB q), .value (.slice (some ⟨wr.drew.heap.size, 0, none⟩) 1 1), by kernel_rfl, by kernel_rfl, by kernel_rfl, .inl rfl, g1, fun hHeld => ?_⟩ ⟨some 14, .pointer (some ⟨wr.drew.heap.size, 0, none⟩), wr.drew.alloc zeroSl6, .value (.pointer (some ⟨wr.drew.heap.size, 0, none⟩)), by kernel_rfl, by kernel_rfl, by kernel_rfl, .inl rfl, g2, fun hHeld => ?_⟩
        · refine Step.two (i := 4) (j := 11) (by kernel_rfl) ⟨some 39, .string (strOfNums [q]), wr.drew.alloc (rowB q), .value (.string (strOfNums [q])), by kernel_rfl, by kernel_rfl, conv_run (x := .tmp 38) (by kernel_rfl) (by kernel_rfl) e1, .inl rfl, g1, fun hHeld => ?_⟩ ⟨some 14, .pointer (some ⟨(wr.drew.alloc (rowB q)).heap.size, 0, none⟩), (wr.drew.alloc (rowB q)).alloc zeroSl6, .value (.pointer (some ⟨(wr.drew.alloc (rowB q)).heap.size, 0, none⟩)), by kernel_rfl, by kernel_rfl, by kernel_rfl, .inl rfl, g3, fun hHeld => ?_⟩
          · (refine Step.take (i := 5) (d := some 40) (v := .string (nameN k)) (by kernel_rfl) (by kernel_rfl) (by kernel_rfl) (by kernel_rfl) (by kernel_rfl) (fun _ _ _ h => h) hHeld (fun _ hSw => cat_run (x := .const (.string ⟨#[110]⟩)) (y := .tmp 39) (t := 9) HCz.out HCat.out (by kernel_rfl) (by kernel_rfl) (by kernel_rfl)) ?_)
            (refine Step.take (i := 10) (d := some 45) (v := .agg #[.string (nameN k), .int .u64 (x 0), .int .u64 (x 1), .int .u64 (x 2), .int .u64 (x 3), .slice none 0 0]) (by kernel_rfl) (by kernel_rfl) (by kernel_rfl) (by kernel_rfl) (by kernel_rfl) (fun _ _ _ h => h) hHeld (fun _ hSw => by kernel_rfl) ?_)
            (refine Step.one (i := 11) (by kernel_rfl) ⟨some 14, .pointer (some ⟨(wr.drew.alloc (rowB q)).heap.size, 0, none⟩), (wr.drew.alloc (rowB q)).alloc zeroSl6, .value (.pointer (some ⟨(wr.drew.alloc (rowB q)).heap.size, 0, none⟩)), by kernel_rfl, by kernel_rfl, by kernel_rfl, .inl rfl, g3, fun hHeld => ?_⟩)
            (refine Step.one (i := 12) (by kernel_rfl) ⟨none, undef, ((wr.drew.alloc (rowB q)).alloc zeroSl6).setRow (wr.drew.alloc (rowB q)).heap.size #[.string (nameN k), .int .u64 (x 0), .int .u64 (x 1), .int .u64 (x 2), .int .u64 (x 3), .slice none 0 0], .skip, by kernel_rfl, by kernel_rfl, Job.store_run (x := .tmp 14) (y := .tmp 45) (by kernel_rfl) (by kernel_rfl) (by kernel_rfl) z1 (by kernel_rfl) rfl (six_ok _ _ _ _ _ _ rfl), .inr ⟨rfl, rfl⟩, g5, fun hHeld => ?_⟩)
            refine wpAnyH_done (by kernel_rfl) ?_ _
            simp only [Act.put, List.setIfInBounds_toArray, List.set_cons_succ, List.set_cons_zero]
            have hz := setRow_heap _ _ _ #[.string (nameN k), .int .u64 (x 0), .int .u64 (x 1), .int .u64 (x 2), .int .u64 (x 3), .slice none 0 0] _ _ z1
            have hTl : wr.heap.size ≤ (wr.drew.alloc (rowB q)).heap.size := by simp
            have gz := g5
            generalize ((wr.drew.alloc (rowB q)).alloc zeroSl6).setRow (wr.drew.alloc (rowB q)).heap.size #[.string (nameN k), .int .u64 (x 0), .int .u64 (x 1), .int .u64 (x 2), .int .u64 (x 3), .slice none 0 0] = wz at hz gz ⊢
            generalize (wr.drew.alloc (rowB q)).heap.size = T at hz hTl ⊢
            go_wp2_with fail
            go_meet
            exact ⟨T, rfl, hTl, hz, gz⟩
          · (refine Step.one (i := 4) (by kernel_rfl) ⟨some 39, .string (strOfNums [q]), (wr.drew.alloc (rowB q)).alloc zeroSl6, .value (.string (strOfNums [q])), by kernel_rfl, by kernel_rfl, conv_run (x := .tmp 38) (by kernel_rfl) (by kernel_rfl) e3, .inl rfl, g3, fun hHeld => ?_⟩)
            (refine Step.take (i := 5) (d := some 40) (v := .string (nameN k)) (by kernel_rfl) (by kernel_rfl) (by kernel_rfl) (by kernel_rfl) (by kernel_rfl) (fun _ _ _ h => h) hHeld (fun _ hSw => cat_run (x := .const (.string ⟨#[110]⟩)) (y := .tmp 39) (t := 9) HCz.out HCat.out (by kernel_rfl) (by kernel_rfl) (by kernel_rfl)) ?_)
            (refine Step.take (i := 10) (d := some 45) (v := .agg #[.string (nameN k), .int .u64 (x 0), .int .u64 (x 1), .int .u64 (x 2), .int .u64 (x 3), .slice none 0 0]) (by kernel_rfl) (by kernel_rfl) (by kernel_rfl) (by kernel_rfl) (by kernel_rfl) (fun _ _ _ h => h) hHeld (fun _ hSw => by kernel_rfl) ?_)
            (refine Step.one (i := 12) (by kernel_rfl) ⟨none, undef, ((wr.drew.alloc (rowB q)).alloc zeroSl6).setRow (wr.drew.alloc (rowB q)).heap.size #[.string (nameN k), .int .u64 (x 0), .int .u64 (x 1), .int .u64 (x 2), .int .u64 (x 3), .slice none 0 0], .skip, by kernel_rfl, by kernel_rfl, Job.store_run (x := .tmp 14) (y := .tmp 45) (by kernel_rfl) (by kernel_rfl) (by kernel_rfl) z1 (by kernel_rfl) rfl (six_ok _ _ _ _ _ _ rfl), .inr ⟨rfl, rfl⟩, g5, fun hHeld => ?_⟩)
            refine wpAnyH_done (by kernel_rfl) ?_ _
            simp only [Act.put, List.setIfInBounds_toArray, List.set_cons_succ, List.set_cons_zero]
            have hz := setRow_heap _ _ _ #[.string (nameN k), .int .u64 (x 0), .int .u64 (x 1), .int .u64 (x 2), .int .u64 (x 3), .slice none 0 0] _ _ z1
            have hTl : wr.heap.size ≤ (wr.drew.alloc (rowB q)).heap.size := by simp
            have gz := g5
            generalize ((wr.drew.alloc (rowB q)).alloc zeroSl6).setRow (wr.drew.alloc (rowB q)).heap.size #[.string (nameN k), .int .u64 (x 0), .int .u64 (x 1), .int .u64 (x 2), .int .u64 (x 3), .slice none 0 0] = wz at hz gz ⊢
            generalize (wr.drew.alloc (rowB q)).heap.size = T at hz hTl ⊢
            go_wp2_with fail
            go_meet
            exact ⟨T, rfl, hTl, hz, gz⟩
        · (refine Step.one (i := 3) (by kernel_rfl) ⟨some 38, .slice (some ⟨(wr.drew.alloc zeroSl6).heap.size, 0, none⟩) 1 1, (wr.drew.alloc zeroSl6).alloc (rowB q), .value (.slice (some ⟨(wr.drew.alloc zeroSl6).heap.size, 0, none⟩) 1 1), by kernel_rfl, by kernel_rfl, by kernel_rfl, .inl rfl, g4, fun hHeld => ?_⟩)
          (refine Step.one (i := 4) (by kernel_rfl) ⟨some 39, .string (strOfNums [q]), (wr.drew.alloc zeroSl6).alloc (rowB q), .value (.string (strOfNums [q])), by kernel_rfl, by kernel_rfl, conv_run (x := .tmp 38) (by kernel_rfl) (by kernel_rfl) e2, .inl rfl, g4, fun hHeld => ?_⟩)
          (refine Step.take (i := 5) (d := some 40) (v := .string (nameN k)) (by kernel_rfl) (by kernel_rfl) (by kernel_rfl) (by kernel_rfl) (by kernel_rfl) (fun _ _ _ h => h) hHeld (fun _ hSw => cat_run (x := .const (.string ⟨#[110]⟩)) (y := .tmp 39) (t := 9) HCz.out HCat.out (by kernel_rfl) (by kernel_rfl) (by kernel_rfl)) ?_)
          (refine Step.take (i := 10) (d := some 45) (v := .agg #[.string (nameN k), .int .u64 (x 0), .int .u64 (x 1), .int .u64 (x 2), .int .u64 (x 3), .slice none 0 0]) (by kernel_rfl) (by kernel_rfl) (by kernel_rfl) (by kernel_rfl) (by kernel_rfl) (fun _ _ _ h => h) hHeld (fun _ hSw => by kernel_rfl) ?_)
          (refine Step.one (i := 12) (by kernel_rfl) ⟨none, undef, ((wr.drew.alloc zeroSl6).alloc (rowB q)).setRow wr.drew.heap.size #[.string (nameN k), .int .u64 (x 0), .int .u64 (x 1), .int .u64 (x 2), .int .u64 (x 3), .slice none 0 0], .skip, by kernel_rfl, by kernel_rfl, Job.store_run (x := .tmp 14) (y := .tmp 45) (by kernel_rfl) (by kernel_rfl) (by kernel_rfl) z2 (by kernel_rfl) rfl (six_ok _ _ _ _ _ _ rfl), .inr ⟨rfl, rfl⟩, g6, fun hHeld => ?_⟩)
          refine wpAnyH_done (by kernel_rfl) ?_ _
          simp only [Act.put, List.setIfInBounds_toArray, List.set_cons_succ, List.set_cons_zero]
          have hz := setRow_heap _ _ _ #[.string (nameN k), .int .u64 (x 0), .int .u64 (x 1), .int .u64 (x 2), .int .u64 (x 3), .slice none 0 0] _ _ z2
          have hTl : wr.heap.size ≤ wr.drew.heap.size := Nat.le_refl _
          have gz := g6
          generalize ((wr.drew.alloc zeroSl6).alloc (rowB q)).setRow wr.drew.heap.size #[.string (nameN k), .int .u64 (x 0), .int .u64 (x 1), .int .u64 (x 2), .int .u64 (x 3), .slice none 0 0] = wz at hz gz ⊢
          generalize wr.drew.heap.size = T at hz hTl ⊢
          go_wp2_with fail
          go_meet
          exact ⟨T, rfl, hTl, hz, gz⟩
      case rest =>
        obtain ⟨P, rfl, hP, hPb, hbx⟩ := hcut
        have hWx : Below W.heap.size W wc := hb.trans (hbx.mono hb.size)
        have HMx := HMi.out.below hbx
        have hPn : (Value.slice ta xs.length tc).ownBlock ≠ some P := fun e => by have := own_block_le HMi.out e; omega
        clear g1 g2 g3 g4 g5 g6 e1 e2 e3 z1 z2 hd0 HQ HCat HCz HS HMi
        have HPb := Lib.hid hPb
        have hlen := congrArg List.length HXM.out
        rw [List.length_map, made_length] at hlen
        have hP0 : W.heap.size ≤ P := Nat.le_trans hb.size hP
        have hPx : P < wc.heap.size := (Array.getElem?_eq_some_iff.1 hPb).1
        -- the append of what the block holds
        have HApp : Hid (∀ (wy : World) (lv : Value) (ls : List Pr), wy.heap[P]? = some (boxSl (nameN k) x lv) → SMine 47 wy W.heap.size (.slice ta xs.length tc) xs → Below W.heap.size W wy → mk fr sl k = { node := nameN k, free := x, labs := ls } → Row W lv ls → ls.length ≤ 4398046511104 → (∃ la n c, lv = .slice la n c) →
            ∃ v' w', (Builtin.append_ #[22, 22] 22 #[.slice ta xs.length tc, .slice (some ⟨wy.heap.size, 0, none⟩) 1 1]).run Try.prog (wy.alloc (.cells #[.string (nameN k), .int .u64 (x 0), .int .u64 (x 1), .int .u64 (x 2), .int .u64 (x 3), lv] 47)) = .ok v' w' ∧
              ∃ xs', xs'.map (·.1) = made fr sl (k + 1) ∧ SMine 47 w' W.heap.size v' xs' ∧ (∀ p ∈ xs', Row W p.2 p.1.labs ∧ p.1.ok) ∧ Below W.heap.size W w') := Lib.hid (fun wy lv ls hbox hm hbw hmk hrow hll hsl => by
          have hal : Below wy.heap.size wy (wy.alloc (.cells #[.string (nameN k), .int .u64 (x 0), .int .u64 (x 1), .int .u64 (x 2), .int .u64 (x 3), lv] 47)) := (Below.refl _ _).alloc (Nat.le_refl _) _
          have hone := SMine.one 47 wy hbw.size { node := nameN k, free := x, labs := ls } lv
          obtain ⟨v', w', hr, hm', hb'⟩ := sappend (T := 47) (ts := 22) Try.underlying22 infoS (hm.below hal) hone.read (fun p hp => by rw [List.mem_singleton.1 hp]; exact hsl) (by simp; omega) (by rw [World.size_alloc]; have := hbw.size; omega) 22
          refine ⟨v', w', hr, _, ?_, hm', fun p hp => ?_, (hbw.trans (hal.mono hbw.size)).trans (hb'.mono (Nat.le_refl _))⟩
          · rw [List.map_append, HXM.out, made_succ, hmk]; rfl
          · rcases List.mem_append.1 hp with hp | hp
            · exact HXr.out p hp
            · rw [List.mem_singleton.1 hp]
              exact ⟨hrow, HXx.out.2, hll⟩)
        by_cases hks : k < sl.length
        · have hksz : (k : Int) < (sl.length : Int) := by omega
          obtain ⟨g2, o2, rfl, hg2, hcl⟩ := HV0.out.cells hks
          obtain ⟨s, hs⟩ : ∃ s, sl[k]? = some s := ⟨_, List.getElem?_eq_getElem hks⟩
          obtain ⟨la, lc, _, _, _, _, _, p5, hlr, hok⟩ := hcl.six hs
          have p5x : wc.cell? ⟨g2, o2 + k * 6 + 5, none⟩ = some (.slice la s.labs.length lc) := (hWx.cell (p := ⟨g2, o2 + k * 6 + 5, none⟩) hg2).trans p5
          obtain ⟨_, _, _, _, _, c5, _, _, _, _, _, z5⟩ := cells6S hPb
          obtain ⟨wy, hwy⟩ : ∃ wy, wy = wc.setCell ⟨P, 5, none⟩ (.slice la s.labs.length lc) := ⟨_, rfl⟩
          have hyb : wy.heap[P]? = some (boxSl (nameN k) x (.slice la s.labs.length lc)) := by rw [hwy]; exact heap_setCell_same wc P 5 _ _ _ hPb
          have hbxy : Below wc.heap.size wc wc := Below.refl _ _
          have hmy : SMine 47 wy W.heap.size (.slice ta xs.length tc) xs := by
            rw [hwy]
            exact ownsRow_setCell_other HMx hPn _
          have hWy : Below W.heap.size W wy := by rw [hwy]; exact hWx.setCell hP0 _
          obtain ⟨v', w', hrun, xs', hx1, hx2, hx3, hx4⟩ := HApp.out wy _ s.labs hyb hmy hWy (by unfold mk; rw [HXx.out.1, hs]; rfl) hlr hok.labs ⟨_, _, _, rfl⟩
          obtain ⟨c0, c1, c2, c3, c4, c5', _⟩ := cells6S hyb
          have HRes := Lib.hid (And.intro hx1 (And.intro hx2 (And.intro hx3 hx4)))
          have HWy := Lib.hid hwy
          clear hx1 hx2 hx3 hx4 hwy hlen hcl hs p5 hlr hok hyb hmy hWy
          go_upto_region 11 with fail
          rw [← HWy.out]
          clear c5 z5 p5x
          go_wp2_with (at_builtin; refine Lib.wpList_append_run (wy.alloc (.cells #[.string (nameN k), .int .u64 (x 0), .int .u64 (x 1), .int .u64 (x 2), .int .u64 (x 3), .slice la s.labs.length lc] 47)) rfl _ _ _ _ rfl _ _ rfl rfl _ _ hrun ?_)
          exact ⟨⟨k + 1, xs', by omega, by omega, by go_num, HRes.out.1, HRes.out.2.1, HRes.out.2.2.1, HRes.out.2.2.2⟩, by simp [intOf]; omega⟩
        · have hksz : ¬ (k : Int) < (sl.length : Int) := by omega
          obtain ⟨v', w', hrun, xs', hx1, hx2, hx3, hx4⟩ := HApp.out wc _ [] hPb HMx hWx (by unfold mk; rw [HXx.out.1, List.getElem?_eq_none (by omega)]; rfl) (.inl ⟨rfl, _, _, rfl, by unfold maxLen; omega⟩) (Nat.zero_le _) ⟨_, _, _, rfl⟩
          obtain ⟨c0, c1, c2, c3, c4, c5, _⟩ := cells6S hPb
          have HRes := Lib.hid (And.intro hx1 (And.intro hx2 (And.intro hx3 hx4)))
          clear hx1 hx2 hx3 hx4
          go_wp2_with (at_builtin; refine Lib.wpList_append_run (wc.alloc (.cells #[.string (nameN k), .int .u64 (x 0), .int .u64 (x 1), .int .u64 (x 2), .int .u64 (x 3), .slice none 0 0] 47)) rfl _ _ _ _ rfl _ _ rfl rfl _ _ hrun ?_)
          exact ⟨⟨k + 1, xs', by omega, by omega, by go_num, HRes.out.1, HRes.out.2.1, HRes.out.2.2.1, HRes.out.2.2.2⟩, by simp [intOf]; omega⟩
    · obtain ⟨sls, hsls⟩ : ∃ l, l = made fr sl k := ⟨_, rfl⟩
      have hsll : sls.length = k := by rw [hsls, made_length]
      have hxl : xs.length = k := by rw [← hsll, hsls, ← hxm, List.length_map]
      have HSl := Lib.hid (show SlRow wr (.slice ta xs.length tc) sls from (own_lrow (w0 := W) hmine (by rw [hxm, hsls]) hxr).slrow hb)
      have hcF := CFit.out _ sls wr HSl.out (by omega) hb
      obtain ⟨r, hr⟩ : ∃ r, fitL d c (seenAll ts sls) = r := ⟨_, rfl⟩
      rw [hr] at hcF
      have HF2 := Lib.hid hcF
      have HR := Lib.hid hr
      have HSls := Lib.hid hsls
      have HXl := Lib.hid hxl
      have HSll := Lib.hid hsll
      have hwr : w.heap.size < wr.heap.size := by have := hb.size; omega
      have hbx : wr.heap[w.heap.size]? = some (boxV d) := (hb.block _ (by omega)).trans HB.out
      obtain ⟨d0, d1, d2, d3, _⟩ := cells4V hbx
      have HBx := Lib.hid hbx
      have HBw := Lib.hid (hwW.trans (hb.mono hwW.size))
      clear hcF hr hsls hmine hxr hxm hxl hsll CFit HMi hbx
      go_upto_region 6 with fail
      go_cut [32] (fun p wx => p = .bool false ∧ wx = wr)
      case first =>
        clear d0 d1 d2 d3
        by_cases h1 : k < fr.length
        · have h1z : (k : Int) < (fr.length : Int) := by omega
          have h2z : ¬ (k : Int) < 12 := by omega
          go_wp2_with fail
          go_meet
          exact ⟨rfl, rfl⟩
        · have h1z : ¬ (k : Int) < (fr.length : Int) := by omega
          go_wp2_with fail
          go_meet
          exact ⟨rfl, rfl⟩
      case rest =>
        obtain ⟨rfl, rfl⟩ := hcut
        go_wp2_with fail
        rw [← hc]
        (with_reducible refine HF2.out.mono ?_)
        rintro _ w2 ⟨hf1, b2⟩
        have hbF := HBw.out.trans (b2.mono HBw.out.size)
        have HV2 := Lib.hid (HSl.out.below b2)
        have HBx2 := Lib.hid ((b2.block _ hwr).trans HBx.out)
        have HU2 := Lib.hid (fun w' (h : Below w2.heap.size w2 w') => HU.out w' ((hb.trans (b2.mono hb.size)).trans (h.mono (by have := hb.size; have := b2.size; omega))))
        have HbF := Lib.hid hbF
        clear d0 d1 d2 d3 HF2 HBx HU b2 hbF HBw HSl
        cases r with
        | none =>
          obtain rfl : _ = _ := hf1
          go_wp2
          go_ret
          exact ⟨rfl, HbF.out⟩
        | some p =>
          obtain ⟨js, rest⟩ := p
          obtain ⟨N, hN⟩ : ∃ N, nodesOf sls js = N := ⟨_, rfl⟩
          obtain ⟨ov, rfl, hov0⟩ := hf1
          have hov : SRow w2 ov N := by rw [← hN]; exact hov0
          clear hov0
          obtain ⟨oa, oc, rfl, _, _⟩ := hov.slice
          have hNl : N.length = js.length := by rw [← hN]; exact nodesOf_length _ _
          have HN := Lib.hid hN
          have HOv := Lib.hid hov
          have hsz : sls.length * 72 ≤ 140737488355328 := by have := HSll.out; omega
          obtain ⟨lv, w3, hrun, hlr3, b3⟩ := copy_row (T := 47) (ts := 22) Try.underlying22 infoS HV2.out hsz 22
          have HL3 := Lib.hid hlr3
          have HB3 := Lib.hid b3
          clear hov hlr3 b3 hN hsz
          go_wp2_with (at_builtin; refine Lib.wpList_append_run w2 rfl _ _ _ _ rfl _ _ rfl rfl _ _ hrun ?_)
          clear hrun
          go_loopw [18] (fun i wq => ∃ t : Nat, t ≤ js.length ∧ i = .int .i64 t ∧ LRow w2 wq w2.heap.size lv (leftS d (js.take t) sls) ∧ Below w2.heap.size w2 wq) (fun i _ => js.length - (intOf i).toNat)
          case atStart => exact ⟨0, Nat.zero_le _, rfl, HL3.out, HB3.out⟩
          case round =>
            obtain ⟨t, ht, rfl, hlr, hb2⟩ := hrel
            by_cases hlt : t < js.length
            · have hltz : (t : Int) < (js.length : Int) := by omega
              have ht0 : (0 : Int) ≤ (t : Int) := by omega
              obtain ⟨j, hj⟩ : ∃ j, js[t]? = some j := ⟨_, List.getElem?_eq_getElem hlt⟩
              obtain ⟨X, hX⟩ : ∃ X, X = leftS d (js.take t) sls := ⟨_, rfl⟩
              rw [← hX] at hlr
              have hXl : X.length = k := by rw [hX, leftS_length]; exact HSll.out
              have hbest : bestL d (seenAll ts X) = some j := by rw [hX, leftS_seen]; exact fit_best HR.out t j hj
              obtain ⟨sq, hsq1, hsq2⟩ := bestL_some hbest
              obtain ⟨s, hs⟩ : ∃ s, X[j]? = some s := by
                cases hc : X[j]? with
                | none => unfold seenAll at hsq1; rw [List.getElem?_map, hc] at hsq1; cases hsq1
                | some s => exact ⟨s, rfl⟩
              have hsee : sq = seen ts s := by rw [seenAll_get hs] at hsq1; exact (Option.some.inj hsq1).symm
              rw [hsee] at hsq2
              unfold cand at hsq2
              rw [Bool.and_eq_true] at hsq2
              obtain ⟨hmatch, hfits0⟩ := hsq2
              have hfits : fits4 d s.free = true := hfits0
              clear hfits0
              have hjk : j < k := by rw [← hXl]; exact (List.getElem?_eq_some_iff.1 hs).1
              have hjk12 : j < 12 := by omega
              have hnm : ∀ m sm, X[m]? = some sm → sm.node = nameN m := fun m sm hm => left_name (d := d) (fr := fr) (sl := sl) (n := k) (js := js.take t) (by rw [hX, HSls.out] at hm; exact hm)
              have hNt : N[t]? = some (nameN j) := by
                rw [← HN.out]
                unfold nodesOf
                rw [List.getElem?_map, hj, HSls.out]
                simp only [Option.map_some]
                rw [made_get fr sl hjk]
                rfl
              obtain ⟨g3, o3, rfl, hg3, hc3⟩ := HOv.out.cells (k := t) (by omega)
              have HA3 : Hid (∀ w', Below w2.heap.size w2 w' → w'.cell? ⟨g3, o3 + t, none⟩ = some (.string (nameN j))) := Lib.hid fun w' h => (h.cell (p := ⟨g3, o3 + t, none⟩) hg3).trans (hc3 t _ hNt)
              obtain ⟨la, lcap, hlv⟩ : ∃ la lcap, lv = .slice la k lcap := by
                rw [← hXl]
                rcases hlr with ⟨h0, a1, c1, h1, _⟩ | ⟨_, g, c1, h1, _⟩
                · exact ⟨a1, c1, by rw [h1, h0]; rfl⟩
                · exact ⟨_, c1, h1⟩
              subst hlv
              obtain ⟨g, rfl, hgB, hgs, hz1, hz2, hcl⟩ := hlr.store hs (fun _ => 0) (fun _ _ => ⟨Int.le_refl _, by show (0 : Int) ≤ _; decide⟩)
              clear hz1 hz2
              have hok : s.ok := by obtain ⟨_, _, _, _, ok⟩ := hcl j s hs; exact ok
              have hzr := sub_range hok.free HD.out hfits
              have hleft : leftOf s.free d = sub4 s.free d := by unfold leftOf; rw [if_pos hfits]
              have hjz : (j : Int) < (k : Int) := by omega
              have hj0 : (0 : Int) ≤ (j : Int) := by omega
              have HStore := Lib.hid (fun w' (h : Below wr.heap.size wr w') => hlr.below h |>.store hs (sub4 s.free d) hzr)
              have HLr := Lib.hid hlr
              have HCl := Lib.hid hcl
              have HS := Lib.hid hs
              have HX := Lib.hid hX
              have HJ := Lib.hid hj
              have HNm := Lib.hid hnm
              have HMt := Lib.hid hmatch
              have HFt := Lib.hid hfits
              have HOk := Lib.hid hok
              have HZr := Lib.hid hzr
              have HLf := Lib.hid hleft
              have HXl2 := Lib.hid hXl
              have HT : Hid (t < js.length) := Lib.hid hlt
              have HB2 := Lib.hid hb2
              have htN : t < N.length := by omega
              have ht8 : t < 8 := by have := (fit_length HR.out).1; omega
              clear hlr hcl hs hX hj hnm hmatch hfits hok hzr hleft hXl hbest hsq1 hsee hNt hc3 hb2 hNl
              obtain ⟨wq, hwq⟩ : ∃ wq, wq = wr := ⟨_, rfl⟩
              subst hwq
              go_wp2_with fail
              go_loopw [19] (fun q wv => ∃ m : Nat, m ≤ j ∧ q = .int .i64 m ∧ Below wq.heap.size wq wv) (fun q _ => j - (intOf q).toNat)
              case atStart => exact ⟨0, Nat.zero_le _, rfl, Below.refl _ _⟩
              case round =>
                obtain ⟨m, hm, rfl, hbv⟩ := hrel
                obtain ⟨sm, hsm⟩ : ∃ sm, X[m]? = some sm := ⟨_, List.getElem?_eq_getElem (by have := HXl2.out; omega)⟩
                obtain ⟨lw, cm, _⟩ := HCl.out.below hgs hbv m sm hsm
                have n0 := cm 0 _ rfl
                simp only [Nat.zero_add, Nat.add_zero] at n0
                rw [HNm.out m sm hsm] at n0
                have a0 := HA3.out wr (HB2.out.trans (hbv.mono HB2.out.size))
                have hmz : (m : Int) < (k : Int) := by omega
                have hm0 : (0 : Int) ≤ (m : Int) := by omega
                have hinj : nameN m = nameN j → m = j := fun e => name_inj (by omega) hjk12 e
                clear cm hsm
                by_cases hlm : m = j
                · subst hlm
                  have hee : ((nameN m).toList == (nameN m).toList) = true := by simp
                  have hHe : Hid (Below wq.heap.size wq wr) := Lib.hid hbv
                  clear hinj hbv
                  obtain ⟨A, hA⟩ : ∃ A, A = nameN m := ⟨_, rfl⟩
                  rw [← hA] at hee n0 a0
                  have HAn := Lib.hid hA
                  clear hA
                  go_upto_region 20 with fail
                  refine wp_region_held_drew (S := fun z => z.cell? ⟨g, m * 6, none⟩ = some (.string A) ∧ z.cell? ⟨g3, o3 + t, none⟩ = some (.string A)) (by kernel_rfl) ⟨n0, a0⟩ (fun hHeld => ?_)
                  (refine Step.take (i := 0) (d := some 81) (v := .int .i64 m) (by kernel_rfl) (by kernel_rfl) (by kernel_rfl) (by kernel_rfl) (by kernel_rfl) (fun _ _ _ h => h) hHeld (fun _ hSw => by kernel_rfl) ?_)
                  (refine Step.take (i := 1) (d := some 82) (v := .slice (some ⟨g, 0, none⟩) k lcap) (by kernel_rfl) (by kernel_rfl) (by kernel_rfl) (by kernel_rfl) (by kernel_rfl) (fun _ _ _ h => h) hHeld (fun _ hSw => by kernel_rfl) ?_)
                  (refine Step.take (i := 2) (d := some 83) (v := .int .i64 k) (by kernel_rfl) (by kernel_rfl) (by kernel_rfl) (by kernel_rfl) (by kernel_rfl) (fun _ _ _ h => h) hHeld (fun _ hSw => by kernel_rfl) ?_)
                  (refine Step.take (i := 3) (d := some 84) (v := .bool true) (by kernel_rfl) (by kernel_rfl) (by kernel_rfl) (by kernel_rfl) (by kernel_rfl) (fun _ _ _ h => h) hHeld (fun _ hSw => lss_run (p := m) (q := k) (x := .tmp 81) (y := .tmp 83) (t := 3) (by omega) (by kernel_rfl) (by kernel_rfl) (by kernel_rfl)) ?_)
                  (refine Step.take (i := 4) (d := some 85) (v := .bool true) (by kernel_rfl) (by kernel_rfl) (by kernel_rfl) (by kernel_rfl) (by kernel_rfl) (fun _ _ _ h => h) hHeld (fun _ hSw => by kernel_rfl) ?_)
                  (refine Step.take (i := 5) (d := some 86) (v := .slice (some ⟨g, 0, none⟩) k lcap) (by kernel_rfl) (by kernel_rfl) (by kernel_rfl) (by kernel_rfl) (by kernel_rfl) (fun _ _ _ h => h) hHeld (fun _ hSw => by kernel_rfl) ?_)
                  (refine Step.take (i := 6) (d := some 87) (v := .int .i64 m) (by kernel_rfl) (by kernel_rfl) (by kernel_rfl) (by kernel_rfl) (by kernel_rfl) (fun _ _ _ h => h) hHeld (fun _ hSw => by kernel_rfl) ?_)
                  (refine Step.take (i := 7) (d := some 88) (v := .pointer (some ⟨g, m * 6, none⟩)) (by kernel_rfl) (by kernel_rfl) (by kernel_rfl) (by kernel_rfl) (by kernel_rfl) (fun _ _ _ h => h) hHeld (fun _ hSw => Job.at_run (x := .tmp 86) (y := .tmp 87) g m k lcap (by omega) 22 47 Try.underlying22 6 size_slot6 (by kernel_rfl) (by kernel_rfl) (by kernel_rfl)) ?_)
                  (refine Step.take (i := 8) (d := some 89) (v := .pointer (some ⟨g, m * 6, none⟩)) (by kernel_rfl) (by kernel_rfl) (by kernel_rfl) (by kernel_rfl) (by kernel_rfl) (fun _ _ _ h => h) hHeld (fun _ hSw => by kernel_rfl) ?_)
                  (refine Step.take (i := 9) (d := some 90) (v := .string A) (by kernel_rfl) (by kernel_rfl) (by kernel_rfl) (by kernel_rfl) (by kernel_rfl) (fun _ _ _ h => h) hHeld (fun _ hSw => Job.load_str (x := .tmp 89) (b := g) (i := m * 6) (by kernel_rfl) (by kernel_rfl) hSw.1) ?_)
                  (refine Step.take (i := 10) (d := some 91) (v := .slice (some ⟨g3, o3, none⟩) js.length oc) (by kernel_rfl) (by kernel_rfl) (by kernel_rfl) (by kernel_rfl) (by kernel_rfl) (fun _ _ _ h => h) hHeld (fun _ hSw => by kernel_rfl) ?_)
                  (refine Step.take (i := 11) (d := some 92) (v := .int .i64 t) (by kernel_rfl) (by kernel_rfl) (by kernel_rfl) (by kernel_rfl) (by kernel_rfl) (fun _ _ _ h => h) hHeld (fun _ hSw => by kernel_rfl) ?_)
                  (refine Step.take (i := 12) (d := some 93) (v := .pointer (some ⟨g3, o3 + t, none⟩)) (by kernel_rfl) (by kernel_rfl) (by kernel_rfl) (by kernel_rfl) (by kernel_rfl) (fun _ _ _ h => h) hHeld (fun _ hSw => at_runT (x := .tmp 91) (y := .tmp 92) g3 o3 t js.length oc (by omega) 28 9 Try.underlying28 size_str1 (by kernel_rfl) (by kernel_rfl) (by kernel_rfl)) ?_)
                  (refine Step.take (i := 13) (d := some 94) (v := .string A) (by kernel_rfl) (by kernel_rfl) (by kernel_rfl) (by kernel_rfl) (by kernel_rfl) (fun _ _ _ h => h) hHeld (fun _ hSw => Job.load_str (x := .tmp 93) (b := g3) (i := o3 + t) (by kernel_rfl) (by kernel_rfl) hSw.2) ?_)
                  (refine Step.take (i := 14) (d := some 95) (v := .bool (!true)) (by kernel_rfl) (by kernel_rfl) (by kernel_rfl) (by kernel_rfl) (by kernel_rfl) (fun _ _ _ h => h) hHeld (fun _ hSw => neS_run (x := .tmp 90) (y := .tmp 94) (t := 9) hee (by kernel_rfl) (by kernel_rfl) (by kernel_rfl)) ?_)
                  (refine Step.take (i := 15) (d := some 96) (v := .bool (!true)) (by kernel_rfl) (by kernel_rfl) (by kernel_rfl) (by kernel_rfl) (by kernel_rfl) (fun _ _ _ h => h) hHeld (fun _ hSw => by kernel_rfl) ?_)
                  refine wpAnyH_done (by kernel_rfl) ?_ _
                  simp only [Act.put, List.setIfInBounds_toArray, List.set_cons_succ, List.set_cons_zero]
                  have hwd : Below wq.heap.size wq wr.drew := hHe.out.drew
                  generalize wr.drew = wd at hwd ⊢
                  clear n0 a0 hee hHe
                  obtain ⟨lj, cj, _, hrj, _⟩ := (HCl.out.below hgs hwd) m s HS.out
                  obtain ⟨ja, jc, rfl⟩ := Label.Row.slice hrj
                  have p5 := cj 5 _ rfl
                  simp only [Nat.zero_add] at p5
                  have h2d := HB2.out.trans (hwd.mono HB2.out.size)
                  have HM := Lib.hid (match_slot HF.out HOk.out wd (HU2.out _ h2d) (hrj.below h2d))
                  rw [HMt.out] at HM
                  have hne2 : ((m : Int) == (k : Int)) = false := by rw [beq_eq_false_iff_ne]; omega
                  clear cj hrj h2d
                  have HWd := Lib.hid hwd
                  clear hwd
                  go_wp2_with fail
                  (with_reducible refine HM.out.mono ?_)
                  rintro _ we ⟨rfl, hbe⟩
                  have hwe := HWd.out.trans (hbe.mono HWd.out.size)
                  clear p5 hne2 HM HWd hbe
                  have h2e := HB2.out.trans (hwe.mono HB2.out.size)
                  have hws : w.heap.size < w2.heap.size := (Array.getElem?_eq_some_iff.1 HBx2.out).1
                  have hbx : we.heap[w.heap.size]? = some (boxV d) := (h2e.block _ hws).trans HBx2.out
                  obtain ⟨d0, d1, d2, d3, _⟩ := cells4V hbx
                  have hge : g < we.heap.size := by have := hwe.size; omega
                  have hwe0 : w.heap.size < we.heap.size := by have := h2e.size; omega
                  obtain ⟨lj, cj, _⟩ := (HCl.out.below hgs hwe) m s HS.out
                  have p1 := cj 1 _ rfl
                  have p2 := cj 2 _ rfl
                  have p3 := cj 3 _ rfl
                  have p4 := cj 4 _ rfl
                  simp only [Nat.zero_add] at p1 p2 p3 p4
                  have p2 : we.cell? ⟨g, m * 6 + 1 + 1, none⟩ = _ := p2
                  have p3 : we.cell? ⟨g, m * 6 + 1 + 2, none⟩ = _ := p3
                  have p4 : we.cell? ⟨g, m * 6 + 1 + 3, none⟩ = _ := p4
                  obtain ⟨W2, hW2⟩ : ∃ W2, W2 = World.drew (we.alloc (boxV fun _ => 0)) := ⟨_, rfl⟩
                  have h2 : Below we.heap.size we W2 := by rw [hW2]; exact ((Below.refl _ _).alloc (Nat.le_refl _) _).drew
                  have ZW := Lib.hid (show W2.heap[we.heap.size]? = some (boxV fun _ => 0) from by rw [hW2]; exact heap_alloc_new we _)
                  have LW := Lib.hid (show we.heap.size < W2.heap.size from by rw [hW2]; show _ < (we.alloc _).heap.size; rw [World.size_alloc]; omega)
                  have r1 := (h2.cell (p := ⟨g, m * 6 + 1, none⟩) hge).trans p1
                  have r2 := (h2.cell (p := ⟨g, m * 6 + 1 + 1, none⟩) hge).trans p2
                  have r3 := (h2.cell (p := ⟨g, m * 6 + 1 + 2, none⟩) hge).trans p3
                  have r4 := (h2.cell (p := ⟨g, m * 6 + 1 + 3, none⟩) hge).trans p4
                  have f0 := (h2.cell (p := ⟨w.heap.size, 0, none⟩) hwe0).trans d0
                  have f1 := (h2.cell (p := ⟨w.heap.size, 1, none⟩) hwe0).trans d1
                  have f2 := (h2.cell (p := ⟨w.heap.size, 2, none⟩) hwe0).trans d2
                  have f3 := (h2.cell (p := ⟨w.heap.size, 3, none⟩) hwe0).trans d3
                  have HC1 := Lib.hid (vecSub_left s.free d HOk.out.free HD.out we.drew)
                  have HC2 := Lib.hid (vecSub_left s.free d HOk.out.free HD.out W2)
                  have H2w := Lib.hid h2
                  obtain ⟨z, hz⟩ : ∃ z, sub4 s.free d = z := ⟨_, rfl⟩
                  rw [HLf.out, hz, HFt.out] at HC1 HC2
                  have HZ0 := Lib.hid hz
                  have HWe := Lib.hid hwe
                  rw [hW2] at r1 r2 r3 r4 f0 f1 f2 f3 HC2
                  have HW2 := Lib.hid hW2
                  unfold boxV at r1 r2 r3 r4 f0 f1 f2 f3 HC2 HW2
                  clear hz h2 hW2 hbx cj hwe h2e
                  go_upto_region 24 with fail
                  go_cut [20, 21] (fun p b wx => ∃ P, p = .pointer (some ⟨P, 0, none⟩) ∧ b = .bool true ∧ we.heap.size ≤ P ∧ wx.heap[P]? = some (boxV z) ∧ Below we.heap.size we wx)
                  case first =>
                    go_region_law (first
                      | (go_simp; go_at_call 19; (with_reducible refine HC1.out.mono ?_); rintro e w3 ⟨rfl, hb2⟩)
                      | (go_simp; go_at_call 19; (with_reducible refine HC2.out.mono ?_); rintro e w3 ⟨rfl, hb2⟩; rw [← HW2.out] at hb2; have hz := (hb2.block _ LW.out).trans ZW.out; obtain ⟨z0, z1, z2, z3, y0, y1, y2, y3⟩ := cells4V hz; have HZ := Lib.hid hz; clear hz))
                    all_goals
                      go_wp2_with fail
                      go_meet
                      first
                        | exact ⟨w3.heap.size, rfl, rfl, hb2.size, heap_alloc_new w3 _, ((Below.refl _ we).drew.trans hb2).alloc hb2.size _⟩
                        | exact ⟨we.heap.size, rfl, rfl, Nat.le_refl _, set4_heapV HZ.out z, set4_below (H2w.out.trans (hb2.mono H2w.out.size)) (Nat.le_refl _)⟩
                  case rest =>
                    obtain ⟨P, rfl, rfl, hP, hPz, hbc⟩ := hcut
                    clear r1 r2 r3 r4 f0 f1 f2 f3 HC1 HC2 HW2 H2w ZW LW p1 p2 p3 p4 d0 d1 d2 d3
                    have hqc := HWe.out.trans (hbc.mono HWe.out.size)
                    obtain ⟨c0, c1, c2, c3, _⟩ := cells4V hPz
                    obtain ⟨lj, cj, fj, _, _⟩ := (HCl.out.below hgs hqc) m s HS.out
                    have p1 := cj 1 _ rfl
                    have p2 := cj 2 _ rfl
                    have p3 := cj 3 _ rfl
                    have p4 := cj 4 _ rfl
                    have y1 := fj 1 (by decide)
                    have y2 := fj 2 (by decide)
                    have y3 := fj 3 (by decide)
                    have y4 := fj 4 (by decide)
                    simp only [Nat.zero_add] at p1 p2 p3 p4 y1 y2 y3 y4
                    have p2 : wc.cell? ⟨g, m * 6 + 1 + 1, none⟩ = _ := p2
                    have p3 : wc.cell? ⟨g, m * 6 + 1 + 2, none⟩ = _ := p3
                    have p4 : wc.cell? ⟨g, m * 6 + 1 + 3, none⟩ = _ := p4
                    have y2 : wc.frozen? ⟨g, m * 6 + 1 + 1, none⟩ = _ := y2
                    have y3 : wc.frozen? ⟨g, m * 6 + 1 + 2, none⟩ = _ := y3
                    have y4 : wc.frozen? ⟨g, m * 6 + 1 + 3, none⟩ = _ := y4
                    have HK : Hid (LRow w2 (put4 g (m * 6 + 1) z wc) w2.heap.size (.slice (some ⟨g, 0, none⟩) k lcap) (leftS d (js.take (t + 1)) sls) ∧ Below w2.heap.size w2 (put4 g (m * 6 + 1) z wc)) := Lib.hid (by
                      obtain ⟨g', e1, hB, _, _, hst, _⟩ := (HLr.out.below hqc).store HS.out (sub4 s.free d) HZr.out
                      injection e1 with e1
                      injection e1 with e1 _ _
                      subst e1
                      rw [HZ0.out] at hst
                      refine ⟨?_, put4_below (HB2.out.trans (hqc.mono HB2.out.size)) hB⟩
                      rw [List.take_add_one, HJ.out, Option.toList_some, leftS_snoc, ← HX.out, takeS_some HS.out, HZ0.out]
                      exact hst)
                    unfold put4 at HK
                    clear cj fj hPz hbc hqc
                    have htw : IntKind.i64.wrap ((t : Int) + 1) = (t : Int) + 1 := by rw [IntKind.wrap_i64] <;> omega
                    go_wp2
                    have hT := HT.out
                    exact ⟨⟨t + 1, by omega, by go_num, HK.out.1, HK.out.2⟩, by simp [intOf]; omega⟩
                · have hee : ((nameN m).toList == (nameN j).toList) = false := by
                    rw [beq_eq_false_iff_ne]
                    exact fun e => hlm (hinj (list_eq_of_toList e))
                  obtain ⟨A, hA⟩ : ∃ A, A = nameN m := ⟨_, rfl⟩
                  obtain ⟨B, hB⟩ : ∃ B, B = nameN j := ⟨_, rfl⟩
                  rw [← hA] at hee n0
                  rw [← hB] at hee a0
                  clear hA hB hinj
                  go_upto_region 20 with fail
                  refine wp_region_held_drew (S := fun z => z.cell? ⟨g, m * 6, none⟩ = some (.string A) ∧ z.cell? ⟨g3, o3 + t, none⟩ = some (.string B)) (by kernel_rfl) ⟨n0, a0⟩ (fun hHeld => ?_)
                  (refine Step.take (i := 0) (d := some 81) (v := .int .i64 m) (by kernel_rfl) (by kernel_rfl) (by kernel_rfl) (by kernel_rfl) (by kernel_rfl) (fun _ _ _ h => h) hHeld (fun _ hSw => by kernel_rfl) ?_)
                  (refine Step.take (i := 1) (d := some 82) (v := .slice (some ⟨g, 0, none⟩) k lcap) (by kernel_rfl) (by kernel_rfl) (by kernel_rfl) (by kernel_rfl) (by kernel_rfl) (fun _ _ _ h => h) hHeld (fun _ hSw => by kernel_rfl) ?_)
                  (refine Step.take (i := 2) (d := some 83) (v := .int .i64 k) (by kernel_rfl) (by kernel_rfl) (by kernel_rfl) (by kernel_rfl) (by kernel_rfl) (fun _ _ _ h => h) hHeld (fun _ hSw => by kernel_rfl) ?_)
                  (refine Step.take (i := 3) (d := some 84) (v := .bool true) (by kernel_rfl) (by kernel_rfl) (by kernel_rfl) (by kernel_rfl) (by kernel_rfl) (fun _ _ _ h => h) hHeld (fun _ hSw => lss_run (p := m) (q := k) (x := .tmp 81) (y := .tmp 83) (t := 3) (by omega) (by kernel_rfl) (by kernel_rfl) (by kernel_rfl)) ?_)
                  (refine Step.take (i := 4) (d := some 85) (v := .bool true) (by kernel_rfl) (by kernel_rfl) (by kernel_rfl) (by kernel_rfl) (by kernel_rfl) (fun _ _ _ h => h) hHeld (fun _ hSw => by kernel_rfl) ?_)
                  (refine Step.take (i := 5) (d := some 86) (v := .slice (some ⟨g, 0, none⟩) k lcap) (by kernel_rfl) (by kernel_rfl) (by kernel_rfl) (by kernel_rfl) (by kernel_rfl) (fun _ _ _ h => h) hHeld (fun _ hSw => by kernel_rfl) ?_)
                  (refine Step.take (i := 6) (d := some 87) (v := .int .i64 m) (by kernel_rfl) (by kernel_rfl) (by kernel_rfl) (by kernel_rfl) (by kernel_rfl) (fun _ _ _ h => h) hHeld (fun _ hSw => by kernel_rfl) ?_)
                  (refine Step.take (i := 7) (d := some 88) (v := .pointer (some ⟨g, m * 6, none⟩)) (by kernel_rfl) (by kernel_rfl) (by kernel_rfl) (by kernel_rfl) (by kernel_rfl) (fun _ _ _ h => h) hHeld (fun _ hSw => Job.at_run (x := .tmp 86) (y := .tmp 87) g m k lcap (by omega) 22 47 Try.underlying22 6 size_slot6 (by kernel_rfl) (by kernel_rfl) (by kernel_rfl)) ?_)
                  (refine Step.take (i := 8) (d := some 89) (v := .pointer (some ⟨g, m * 6, none⟩)) (by kernel_rfl) (by kernel_rfl) (by kernel_rfl) (by kernel_rfl) (by kernel_rfl) (fun _ _ _ h => h) hHeld (fun _ hSw => by kernel_rfl) ?_)
                  (refine Step.take (i := 9) (d := some 90) (v := .string A) (by kernel_rfl) (by kernel_rfl) (by kernel_rfl) (by kernel_rfl) (by kernel_rfl) (fun _ _ _ h => h) hHeld (fun _ hSw => Job.load_str (x := .tmp 89) (b := g) (i := m * 6) (by kernel_rfl) (by kernel_rfl) hSw.1) ?_)
                  (refine Step.take (i := 10) (d := some 91) (v := .slice (some ⟨g3, o3, none⟩) js.length oc) (by kernel_rfl) (by kernel_rfl) (by kernel_rfl) (by kernel_rfl) (by kernel_rfl) (fun _ _ _ h => h) hHeld (fun _ hSw => by kernel_rfl) ?_)
                  (refine Step.take (i := 11) (d := some 92) (v := .int .i64 t) (by kernel_rfl) (by kernel_rfl) (by kernel_rfl) (by kernel_rfl) (by kernel_rfl) (fun _ _ _ h => h) hHeld (fun _ hSw => by kernel_rfl) ?_)
                  (refine Step.take (i := 12) (d := some 93) (v := .pointer (some ⟨g3, o3 + t, none⟩)) (by kernel_rfl) (by kernel_rfl) (by kernel_rfl) (by kernel_rfl) (by kernel_rfl) (fun _ _ _ h => h) hHeld (fun _ hSw => at_runT (x := .tmp 91) (y := .tmp 92) g3 o3 t js.length oc (by omega) 28 9 Try.underlying28 size_str1 (by kernel_rfl) (by kernel_rfl) (by kernel_rfl)) ?_)
                  (refine Step.take (i := 13) (d := some 94) (v := .string B) (by kernel_rfl) (by kernel_rfl) (by kernel_rfl) (by kernel_rfl) (by kernel_rfl) (fun _ _ _ h => h) hHeld (fun _ hSw => Job.load_str (x := .tmp 93) (b := g3) (i := o3 + t) (by kernel_rfl) (by kernel_rfl) hSw.2) ?_)
                  (refine Step.take (i := 14) (d := some 95) (v := .bool (!false)) (by kernel_rfl) (by kernel_rfl) (by kernel_rfl) (by kernel_rfl) (by kernel_rfl) (fun _ _ _ h => h) hHeld (fun _ hSw => neS_run (x := .tmp 90) (y := .tmp 94) (t := 9) hee (by kernel_rfl) (by kernel_rfl) (by kernel_rfl)) ?_)
                  (refine Step.take (i := 15) (d := some 96) (v := .bool (!false)) (by kernel_rfl) (by kernel_rfl) (by kernel_rfl) (by kernel_rfl) (by kernel_rfl) (fun _ _ _ h => h) hHeld (fun _ hSw => by kernel_rfl) ?_)
                  refine wpAnyH_done (by kernel_rfl) ?_ _
                  simp only [Act.put, List.setIfInBounds_toArray, List.set_cons_succ, List.set_cons_zero]
                  go_wp2_with fail
                  exact ⟨⟨m + 1, by omega, by go_num, hbv.drew⟩, by simp [intOf]; omega⟩
            · have hltz : ¬ (t : Int) < (js.length : Int) := by omega
              have HbG := Lib.hid (HbF.out.trans (hb2.mono HbF.out.size))
              clear hlr hb2
              go_wp2
              go_ret
              exact ⟨rfl, HbG.out⟩
end Go.Proofs.Ytbefnophkaepmaa.Pack
