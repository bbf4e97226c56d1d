/- The document's own answer to chapter 6: what its block tells of eight words and 64 bytes; of memory that was there nothing turns. -/
import Derived.Test.YthopegokjbibmaaDoorHRefB
namespace Go.Proofs.YthopegokjbibmaaDoor.Sha
open Go.RowKit

theorem low0_int (E : Nat) (hE : E < 4294967296) : bits .xor .u32 (bits .xor .u32 (rot E 7 : Nat) (rot E 18 : Nat)) ((E : Int) / 8) = ((low0 E : Nat) : Int) := by
  rw [show (E : Int) / 8 = ((E / 8 : Nat) : Int) by omega, u32_xor_nat _ _ (rot_lt _ hE) (rot_lt _ hE), u32_xor_nat _ _ (lt_xor (rot_lt _ hE) (rot_lt _ hE)) (by omega)]; rfl
theorem low1_int (E : Nat) (hE : E < 4294967296) : bits .xor .u32 (bits .xor .u32 (rot E 17 : Nat) (rot E 19 : Nat)) ((E : Int) / 1024) = ((low1 E : Nat) : Int) := by
  rw [show (E : Int) / 1024 = ((E / 1024 : Nat) : Int) by omega, u32_xor_nat _ _ (rot_lt _ hE) (rot_lt _ hE), u32_xor_nat _ _ (lt_xor (rot_lt _ hE) (rot_lt _ hE)) (by omega)]; rfl
theorem sum_wrap (A x C y : Nat) : IntKind.u32.wrap (IntKind.u32.wrap (IntKind.u32.wrap ((A : Int) + (x : Int)) + (C : Int)) + (y : Int)) = (((A + x + C + y) % 4294967296 : Nat) : Int) := by
  rw [IntKind.wrap_u32', IntKind.wrap_u32', IntKind.wrap_u32']; omega
/-- The same memory, some draws later. -/
def Like (w w' : World) : Prop := ∃ n, w' = w.drewN n
theorem Like.own {w w' : World} (h : Like w w') {B : Nat} {e : TypeId} {sz : Nat} {v : Value} {n : Nat} {xs : List Value} (k : w.ownsRow B e sz v n xs) : w'.ownsRow B e sz v n xs := by obtain ⟨_, rfl⟩ := h; exact k
theorem Like.below {w w' w0 : World} (h : Like w w') {B : Nat} (k : Below B w0 w) : Below B w0 w' := by obtain ⟨_, rfl⟩ := h; exact ⟨k.os, k.tape, k.output, k.size, k.block⟩
theorem Like.cell {w w' : World} (h : Like w w') {a : Addr} {v : Value} (k : w.cell? a = some v) : w'.cell? a = some v := by obtain ⟨_, rfl⟩ := h; exact k
theorem Like.trans {a b c : World} (h : Like a b) (k : Like b c) : Like a c := by
  obtain ⟨n, rfl⟩ := h
  obtain ⟨m, rfl⟩ := k
  exact ⟨n + m, by simp [World.drewN, Nat.add_assoc]⟩
theorem rturn_like (x : Nat) (hx : x < 4294967296) (K : Int) (h0 : 0 < K) (h : K < 32) (w : World) :
    Calls Tryd.prog 67 #[.int .u32 x, .int .i64 K] w fun e w' => e = .returned (.int .u32 (rot x K.toNat : Nat)) ∧ Like w w' := rturn_any x hx K h0 h w
theorem one_wrap (H x1 xc K W : Nat) : IntKind.u32.wrap (IntKind.u32.wrap (IntKind.u32.wrap (IntKind.u32.wrap ((H : Int) + (x1 : Int)) + (xc : Int)) + (K : Int)) + (W : Int)) = (((H + x1 + xc + K + W) % 4294967296 : Nat) : Int) := by
  rw [IntKind.wrap_u32', IntKind.wrap_u32', IntKind.wrap_u32', IntKind.wrap_u32']; omega
theorem two_wrap (a b : Nat) : IntKind.u32.wrap ((a : Int) + (b : Int)) = (((a + b) % 4294967296 : Nat) : Int) := by rw [IntKind.wrap_u32']; omega
theorem news_of {w : World} {g : Nat} {l : List Nat} (h : Reads w g l) : ∀ j u, (words l)[j]? = some u → w.cell? ((⟨g, 0, none⟩ : Addr).add j) = some u := by
  intro j u hj
  have hadd : (⟨g, 0, none⟩ : Addr).add j = ⟨g, j, none⟩ := by unfold Addr.add; split <;> simp_all
  have hl : j < l.length := by have := (List.getElem?_eq_some_iff.1 hj).1; rw [words_len] at this; exact this
  rw [hadd, h.2 j hl, ← hj]
  simp [words, hl]
theorem cho_intI (E F G : Nat) (hE : E < 4294967296) (hF : F < 4294967296) (hG : G < 4294967296) : bits .xor .u32 (bits .and .u32 (E : Int) (F : Int)) (bits .and .u32 (bits .xor .u32 (if IntKind.u32.signed = true then -1 else IntKind.u32.max) (E : Int)) (G : Int)) = ((cho E F G : Nat) : Int) := cho_int E F G hE hF hG
theorem Like.reads {w w' : World} (h : Like w w') {g : Nat} {l : List Nat} (k : Reads w g l) : Reads w' g l := by obtain ⟨_, rfl⟩ := h; exact k
/-- Eight words, to the first so many of which others are added. -/
def addL (S t : St) (k : Nat) : List Nat := (List.range 8).map fun i => if i < k then (t.list.getD i 0 + S.list.getD i 0) % 4294967296 else t.list.getD i 0
theorem addL_len (S t : St) (k : Nat) : (addL S t k).length = 8 := by simp [addL]
theorem addL_zero (S t : St) : addL S t 0 = t.list := rfl
theorem addL_set (S t : St) (k : Nat) (hk : k < 8) : (addL S t k).set k ((t.list.getD k 0 + S.list.getD k 0) % 4294967296) = addL S t (k + 1) := by
  obtain rfl | rfl | rfl | rfl | rfl | rfl | rfl | rfl : k = 0 ∨ k = 1 ∨ k = 2 ∨ k = 3 ∨ k = 4 ∨ k = 5 ∨ k = 6 ∨ k = 7 := by omega
  all_goals rfl
theorem addL_at (S t : St) (k : Nat) (hk : k < 8) : (addL S t k).getD k 0 = t.list.getD k 0 := by
  obtain rfl | rfl | rfl | rfl | rfl | rfl | rfl | rfl : k = 0 ∨ k = 1 ∨ k = 2 ∨ k = 3 ∨ k = 4 ∨ k = 5 ∨ k = 6 ∨ k = 7 := by omega
  all_goals rfl
theorem addL_all (S t : St) : addL S t 8 = (S.add t).list := by
  show [(t.a + S.a) % 4294967296, (t.b + S.b) % 4294967296, (t.c + S.c) % 4294967296, (t.d + S.d) % 4294967296, (t.e + S.e) % 4294967296, (t.f + S.f) % 4294967296, (t.g + S.g) % 4294967296, (t.h + S.h) % 4294967296] = [(S.a + t.a) % 4294967296, (S.b + t.b) % 4294967296, (S.c + t.c) % 4294967296, (S.d + t.d) % 4294967296, (S.e + t.e) % 4294967296, (S.f + t.f) % 4294967296, (S.g + t.g) % 4294967296, (S.h + t.h) % 4294967296]
  simp only [Nat.add_comm]
theorem words_set (l : List Nat) (k n : Nat) : (words l).set k (.int .u32 (n : Int)) = words (l.set k n) := by simp [words, List.map_set]
theorem own_drewN {w : World} {B : Nat} {e : TypeId} {sz : Nat} {v : Value} {n : Nat} {xs : List Value} (h : w.ownsRow B e sz v n xs) (m : Nat) : (w.drewN m).ownsRow B e sz v n xs := h
theorem below_drewN {B : Nat} {w w' : World} (h : Below B w w') (n : Nat) : Below B w (w'.drewN n) := ⟨h.os, h.tape, h.output, h.size, h.block⟩
theorem be4_wrap (x0 x1 x2 x3 : Nat) (h3 : x3 < 256) :
    bits .or .u32 (bits .or .u32 (bits .or .u32 (IntKind.u32.wrap (IntKind.u32.wrap (x0 : Int) * 16777216)) (IntKind.u32.wrap (IntKind.u32.wrap (x1 : Int) * 65536))) (IntKind.u32.wrap (IntKind.u32.wrap (x2 : Int) * 256))) (IntKind.u32.wrap (x3 : Int)) =
      ((((x0 * 16777216 % 4294967296 ||| x1 * 65536 % 4294967296) ||| x2 * 256 % 4294967296) ||| x3 : Nat) : Int) := by
  rw [show IntKind.u32.wrap (IntKind.u32.wrap (x0 : Int) * 16777216) = ((x0 * 16777216 % 4294967296 : Nat) : Int) by rw [IntKind.wrap_u32', IntKind.wrap_u32']; omega, show IntKind.u32.wrap (IntKind.u32.wrap (x1 : Int) * 65536) = ((x1 * 65536 % 4294967296 : Nat) : Int) by rw [IntKind.wrap_u32', IntKind.wrap_u32']; omega,
    show IntKind.u32.wrap (IntKind.u32.wrap (x2 : Int) * 256) = ((x2 * 256 % 4294967296 : Nat) : Int) by rw [IntKind.wrap_u32', IntKind.wrap_u32']; omega, show IntKind.u32.wrap (x3 : Int) = ((x3 : Nat) : Int) by rw [IntKind.wrap_u32']; omega,
    u32_or_nat _ _ mod_lt mod_lt, u32_or_nat _ _ (lt_or mod_lt mod_lt) mod_lt, u32_or_nat _ _ (lt_or (lt_or mod_lt mod_lt) mod_lt) (by omega)]
/-- What block hands back. -/
def GivesW (w : World) (T : St) (e : Ending) (w' : World) : Prop := (∃ g cap, e = .returned (.slice (some ⟨g, 0, none⟩) 8 cap) ∧ Reads w' g T.list) ∧ Below w.heap.size w w'
set_option maxHeartbeats 4000000 in
set_option maxRecDepth 100000 in
theorem rblock_any (S : St) (hS : S.ok) (x : ByteArray) (hx : x.size = 64) (gh ch gk : Nat) (w : World) (hh : Reads w gh S.list) (hk : Reads w gk cubes) :
    Calls Tryd.prog 55 #[.slice (some ⟨gh, 0, none⟩) 8 ch, .slice (some ⟨gk, 0, none⟩) 64 64, .string x] w (GivesW w (comp S x.data.toList)) := by
  obtain ⟨i0, hi, hz0, hz1, hz2⟩ := info_parts info35
  have HH := Lib.hid hh
  have HK := Lib.hid hk
  have HG : Hid (∀ (j : Nat) (h : j < x.size), byteAt x.data.toList j = x[j].toNat) := Lib.hid fun j h => by
    unfold byteAt; rw [List.getD_eq_getElem?_getD, byte_of x j h]; rfl
  obtain ⟨B, hB⟩ : ∃ B, B = x.data.toList := ⟨_, rfl⟩
  rw [← hB] at HG ⊢
  clear hB hh hk
  have HXs := Lib.hid hx
  have hx4 : ∀ j, j < 64 → j < x.size := fun j h => by omega
  have HX4 := Lib.hid hx4
  clear hx hx4
  go_enter Tryd.func55, Tryd.ntmps55
  go_wp2
  go_loopw [7, 8] (fun v i wr => ∃ k : Nat, k ≤ 16 ∧ i = .int .i64 k ∧ wr.ownsRow w.heap.size 79 1 v k (words (sched B k)) ∧ Below w.heap.size w wr) (fun _ i _ => 16 - (intOf i).toNat)
  case atStart => exact ⟨0, Nat.zero_le _, rfl, World.ownsRow_nil _ _ _ _, Below.refl _ _⟩
  case round =>
    obtain ⟨k, hk, rfl, hown, hb⟩ := hrel
    by_cases hlt : k < 16
    · have hltz : (k : Int) < 16 := by omega
      obtain ⟨p0, e0⟩ : ∃ p, p = 4 * k := ⟨_, rfl⟩
      obtain ⟨p1, e1⟩ : ∃ p, p = 4 * k + 1 := ⟨_, rfl⟩
      obtain ⟨p2, e2⟩ : ∃ p, p = 4 * k + 2 := ⟨_, rfl⟩
      obtain ⟨p3, e3⟩ : ∃ p, p = 4 * k + 3 := ⟨_, rfl⟩
      have l0 := HX4.out p0 (by omega)
      have l1 := HX4.out p1 (by omega)
      have l2 := HX4.out p2 (by omega)
      have l3 := HX4.out p3 (by omega)
      have y0 : IntKind.i64.wrap (4 * (k : Int)) = (p0 : Int) := by rw [IntKind.wrap_i64]; omega
      have y1 : IntKind.i64.wrap ((p0 : Int) + 1) = (p1 : Int) := by rw [IntKind.wrap_i64]; omega
      have y2 : IntKind.i64.wrap ((p0 : Int) + 2) = (p2 : Int) := by rw [IntKind.wrap_i64]; omega
      have y3 : IntKind.i64.wrap ((p0 : Int) + 3) = (p3 : Int) := by rw [IntKind.wrap_i64]; omega
      have z0 : (p0 : Int) < (x.size : Int) := by omega
      have z1 : (p1 : Int) < (x.size : Int) := by omega
      have z2 : (p2 : Int) < (x.size : Int) := by omega
      have z3 : (p3 : Int) < (x.size : Int) := by omega
      obtain ⟨d0, h0⟩ : ∃ d, x[p0] = d := ⟨_, rfl⟩
      obtain ⟨d1, h1⟩ : ∃ d, x[p1] = d := ⟨_, rfl⟩
      obtain ⟨d2, h2⟩ : ∃ d, x[p2] = d := ⟨_, rfl⟩
      obtain ⟨d3, h3⟩ : ∃ d, x[p3] = d := ⟨_, rfl⟩
      have hor := be4_wrap d0.toNat d1.toNat d2.toNat d3.toNat (UInt8.toNat_lt _)
      obtain ⟨N, hN⟩ : ∃ N, ((d0.toNat * 16777216 % 4294967296 ||| d1.toNat * 65536 % 4294967296) ||| d2.toNat * 256 % 4294967296) ||| d3.toNat = N := ⟨_, rfl⟩
      rw [hN] at hor
      have HN : Hid (sched B (k + 1) = sched B k ++ [N]) := Lib.hid (by
        rw [sched, if_pos hlt, be4, show 4 * k + 1 = p1 from e1.symm, show 4 * k + 2 = p2 from e2.symm, show 4 * k + 3 = p3 from e3.symm, show 4 * k = p0 from e0.symm, HG.out p0 l0, HG.out p1 l1, HG.out p2 l2, HG.out p3 l3, h0, h1, h2, h3, hN])
      have HO : Hid (∀ o, (World.alloc wr.drew o).ownsRow w.heap.size 79 1 u7 k (words (sched B k))) := Lib.hid fun o => World.ownsRow.alloc (w := wr.drew) hown o
      have HOl := Lib.hid hown
      have hb3 : Below w.heap.size w (World.alloc wr.drew (.cells #[.int .u32 (N : Int)] 79)) := hb.drew.alloc hb.drew.size _
      have HL1 : Hid (k + 1 ≤ maxLen ∧ (k + 1) * 4 ≤ 140737488355328) := Lib.hid (by unfold maxLen; omega)
      clear e0 e1 e2 e3 hN hown
      go_wp2_with fail
      refine wp_region_any (by kernel_rfl) ?_
      change wpAny _ _ _ _ _ _ _ (World.drew _)
      (refine wpAny_take (i := 0) (v := ?_) rfl (by kernel_rfl) (by kernel_rfl) (by kernel_rfl) (fun _ _ _ h => h) (Or.inl ⟨by rfl, ?_⟩) ?_; rotate_left; focus (intro w; go_simp; try with_reducible rfl))
      (refine wpAny_take (i := 1) (v := ?_) rfl (by kernel_rfl) (by kernel_rfl) (by kernel_rfl) (fun _ _ _ h => h) (Or.inl ⟨by rfl, ?_⟩) ?_; rotate_left; focus (intro w; go_simp; try with_reducible rfl))
      (refine wpAny_take (i := 2) (v := ?_) rfl (by kernel_rfl) (by kernel_rfl) (by kernel_rfl) (fun _ _ _ h => h) (Or.inl ⟨by rfl, ?_⟩) ?_; rotate_left; focus (intro w; go_simp; try with_reducible rfl))
      (refine wpAny_take (i := 3) (v := ?_) rfl (by kernel_rfl) (by kernel_rfl) (by kernel_rfl) (fun _ _ _ h => h) (Or.inl ⟨by rfl, ?_⟩) ?_; rotate_left; focus (intro w; go_simp; try with_reducible rfl))
      (refine wpAny_take (i := 4) (v := ?_) rfl (by kernel_rfl) (by kernel_rfl) (by kernel_rfl) (fun _ _ _ h => h) (Or.inl ⟨by rfl, ?_⟩) ?_; rotate_left; focus (intro w; go_simp; try with_reducible rfl))
      (refine wpAny_take (i := 5) (v := ?_) rfl (by kernel_rfl) (by kernel_rfl) (by kernel_rfl) (fun _ _ _ h => h) (Or.inl ⟨by rfl, ?_⟩) ?_; rotate_left; focus (intro w; go_simp; try with_reducible rfl))
      (refine wpAny_take (i := 6) (v := ?_) rfl (by kernel_rfl) (by kernel_rfl) (by kernel_rfl) (fun _ _ _ h => h) (Or.inl ⟨by rfl, ?_⟩) ?_; rotate_left; focus (intro w; go_simp; try with_reducible rfl))
      (refine wpAny_take (i := 7) (v := ?_) rfl (by kernel_rfl) (by kernel_rfl) (by kernel_rfl) (fun _ _ _ h => h) (Or.inl ⟨by rfl, ?_⟩) ?_; rotate_left; focus (intro w; go_simp; try with_reducible rfl))
      (refine wpAny_take (i := 8) (v := ?_) rfl (by kernel_rfl) (by kernel_rfl) (by kernel_rfl) (fun _ _ _ h => h) (Or.inl ⟨by rfl, ?_⟩) ?_; rotate_left; focus (intro w; go_simp; try with_reducible rfl))
      (refine wpAny_take (i := 9) (v := ?_) rfl (by kernel_rfl) (by kernel_rfl) (by kernel_rfl) (fun _ _ _ h => h) (Or.inl ⟨by rfl, ?_⟩) ?_; rotate_left; focus (intro w; go_simp; try with_reducible rfl))
      (refine wpAny_take (i := 10) (v := ?_) rfl (by kernel_rfl) (by kernel_rfl) (by kernel_rfl) (fun _ _ _ h => h) (Or.inl ⟨by rfl, ?_⟩) ?_; rotate_left; focus (intro w; go_simp; try with_reducible rfl))
      (refine wpAny_take (i := 11) (v := ?_) rfl (by kernel_rfl) (by kernel_rfl) (by kernel_rfl) (fun _ _ _ h => h) (Or.inl ⟨by rfl, ?_⟩) ?_; rotate_left; focus (intro w; go_simp; try with_reducible rfl))
      (refine wpAny_take (i := 12) (v := ?_) rfl (by kernel_rfl) (by kernel_rfl) (by kernel_rfl) (fun _ _ _ h => h) (Or.inl ⟨by rfl, ?_⟩) ?_; rotate_left; focus (intro w; go_simp; try with_reducible rfl))
      (refine wpAny_take (i := 13) (v := ?_) rfl (by kernel_rfl) (by kernel_rfl) (by kernel_rfl) (fun _ _ _ h => h) (Or.inl ⟨by rfl, ?_⟩) ?_; rotate_left; focus (intro w; go_simp; try with_reducible rfl))
      (refine wpAny_take (i := 14) (v := ?_) rfl (by kernel_rfl) (by kernel_rfl) (by kernel_rfl) (fun _ _ _ h => h) (Or.inl ⟨by rfl, ?_⟩) ?_; rotate_left; focus (intro w; go_simp; try with_reducible rfl))
      (refine wpAny_take (i := 15) (v := ?_) rfl (by kernel_rfl) (by kernel_rfl) (by kernel_rfl) (fun _ _ _ h => h) (Or.inl ⟨by rfl, ?_⟩) ?_; rotate_left; focus (intro w; go_simp; try with_reducible rfl))
      (refine wpAny_take (i := 16) (v := ?_) rfl (by kernel_rfl) (by kernel_rfl) (by kernel_rfl) (fun _ _ _ h => h) (Or.inl ⟨by rfl, ?_⟩) ?_; rotate_left; focus (intro w; go_simp; try with_reducible rfl))
      (refine wpAny_take (i := 17) (v := ?_) rfl (by kernel_rfl) (by kernel_rfl) (by kernel_rfl) (fun _ _ _ h => h) (Or.inl ⟨by rfl, ?_⟩) ?_; rotate_left; focus (intro w; go_simp; try with_reducible rfl))
      (refine wpAny_take (i := 18) (v := ?_) rfl (by kernel_rfl) (by kernel_rfl) (by kernel_rfl) (fun _ _ _ h => h) (Or.inl ⟨by rfl, ?_⟩) ?_; rotate_left; focus (intro w; go_simp; try with_reducible rfl))
      (refine wpAny_take (i := 19) (v := ?_) rfl (by kernel_rfl) (by kernel_rfl) (by kernel_rfl) (fun _ _ _ h => h) (Or.inl ⟨by rfl, ?_⟩) ?_; rotate_left; focus (intro w; go_simp; try with_reducible rfl))
      (refine wpAny_take (i := 20) (v := ?_) rfl (by kernel_rfl) (by kernel_rfl) (by kernel_rfl) (fun _ _ _ h => h) (Or.inl ⟨by rfl, ?_⟩) ?_; rotate_left; focus (intro w; go_simp; try with_reducible rfl))
      (refine wpAny_take (i := 21) (v := ?_) rfl (by kernel_rfl) (by kernel_rfl) (by kernel_rfl) (fun _ _ _ h => h) (Or.inl ⟨by rfl, ?_⟩) ?_; rotate_left; focus (intro w; go_simp; try with_reducible rfl))
      (refine wpAny_take (i := 22) (v := ?_) rfl (by kernel_rfl) (by kernel_rfl) (by kernel_rfl) (fun _ _ _ h => h) (Or.inl ⟨by rfl, ?_⟩) ?_; rotate_left; focus (intro w; go_simp; try with_reducible rfl))
      (refine wpAny_take (i := 23) (v := ?_) rfl (by kernel_rfl) (by kernel_rfl) (by kernel_rfl) (fun _ _ _ h => h) (Or.inl ⟨by rfl, ?_⟩) ?_; rotate_left; focus (intro w; go_simp; try with_reducible rfl))
      (refine wpAny_take (i := 24) (v := ?_) rfl (by kernel_rfl) (by kernel_rfl) (by kernel_rfl) (fun _ _ _ h => h) (Or.inl ⟨by rfl, ?_⟩) ?_; rotate_left; focus (intro w; go_simp; try with_reducible rfl))
      (refine wpAny_take (i := 25) (v := ?_) rfl (by kernel_rfl) (by kernel_rfl) (by kernel_rfl) (fun _ _ _ h => h) (Or.inl ⟨by rfl, ?_⟩) ?_; rotate_left; focus (intro w; go_simp; try with_reducible rfl))
      (refine wpAny_take (i := 26) (v := ?_) rfl (by kernel_rfl) (by kernel_rfl) (by kernel_rfl) (fun _ _ _ h => h) (Or.inl ⟨by rfl, ?_⟩) ?_; rotate_left; focus (intro w; go_simp; try with_reducible rfl))
      (refine wpAny_take (i := 27) (v := ?_) rfl (by kernel_rfl) (by kernel_rfl) (by kernel_rfl) (fun _ _ _ h => h) (Or.inl ⟨by rfl, ?_⟩) ?_; rotate_left; focus (intro w; go_simp; try with_reducible rfl))
      (refine wpAny_take (i := 28) (v := ?_) rfl (by kernel_rfl) (by kernel_rfl) (by kernel_rfl) (fun _ _ _ h => h) (Or.inl ⟨by rfl, ?_⟩) ?_; rotate_left; focus (intro w; go_simp; try with_reducible rfl))
      (refine wpAny_take (i := 29) (v := ?_) rfl (by kernel_rfl) (by kernel_rfl) (by kernel_rfl) (fun _ _ _ h => h) (Or.inl ⟨by rfl, ?_⟩) ?_; rotate_left; focus (intro w; go_simp; try with_reducible rfl))
      (refine wpAny_ready (rs := [30]) (by kernel_rfl) (by simp) ?_; refine AllReady.cons rfl (fun K hK => ?_) AllReady.nil; go_simp; refine hK _ _ ?_; clear hK K)
      (refine wpAny_ready (rs := [31]) (by kernel_rfl) (by simp) ?_; refine AllReady.cons rfl (fun K hK => ?_) AllReady.nil; (refine step_own _ rfl _ _ 84 rfl w.heap.size 79 i0 (.int .u32 0) 1 4 Tryd.underlying84 hi hz0 hz1 hz2 rfl (by decide) u7 k (words (sched B k)) rfl (HO.out _) ⟨wr.heap.size, 0, none⟩ 1 1 (words [N]) rfl rfl (builtW wr.drew [N] _) (words_mem _) HL1.out.1 HL1.out.2 hb3.size ?_; intro v5 w5 hown5 hgr5); refine hK _ _ ?_; clear hK K)
      (refine wpAny_take (i := 32) (v := ?_) rfl (by kernel_rfl) (by kernel_rfl) (by kernel_rfl) (fun _ _ _ h => h) (Or.inl ⟨by rfl, ?_⟩) ?_; rotate_left; focus (intro w; go_simp; try with_reducible rfl))
      refine wpAny_done (by kernel_rfl) ?_ _
      all_goals
        have hown6 : w5.ownsRow w.heap.size 79 1 v5 (k + 1) (words (sched B (k + 1))) := by rw [HN.out, words_snoc]; exact hown5
        have b5 : Below w.heap.size w w5 := hb3.grown hgr5 hb3.size (fun j hj => (HOl.out.lt j hj).1)
        clear hown5 hgr5 hor h0 h1 h2 h3 y0 y1 y2 y3 HO HOl
        go_wp2
        go_roundw
        case rel => exact ⟨k + 1, by omega, by go_num, hown6, b5⟩
        case measure => simp [intOf]; omega
    · have hm : k = 16 := by omega
      have HO0 : Hid (wr.ownsRow w.heap.size 79 1 u7 16 (words (sched B 16))) := Lib.hid (hm ▸ hown)
      have HB0 := Lib.hid hb
      have hnz : ¬ (k : Int) < 16 := by omega
      clear hown hb hm
      go_wp2
      go_loopw [7, 9] (fun v i wr => ∃ k : Nat, 16 ≤ k ∧ k ≤ 64 ∧ i = .int .i64 k ∧ wr.ownsRow w.heap.size 79 1 v k (words (sched B k)) ∧ Below w.heap.size w wr) (fun _ i _ => 64 - (intOf i).toNat)
      case atStart => exact ⟨16, Nat.le_refl _, by omega, rfl, HO0.out, HB0.out⟩
      case round =>
        clear hnz HO0 HB0 hlt hk
        obtain ⟨k, hk1, hk, rfl, hown, hb⟩ := hrel
        by_cases hlt : k < 64
        · have hltz : (k : Int) < 64 := by omega
          have HOl := Lib.hid hown
          obtain ⟨g, cap, rfl⟩ : ∃ g cap, u7 = .slice (some ⟨g, 0, none⟩) k cap := by
            rcases hown.2 with ⟨_, h0⟩ | ⟨g, cap, cur, h, _⟩
            · omega
            · exact ⟨g, cap, h⟩
          have hRd := Reads.of_own hown (sched_length B k).symm
          have e := sched_length B k
          have hl := sched_lt B k
          have c2 := hRd.2 (k - 2) (by omega)
          have c15 := hRd.2 (k - 15) (by omega)
          have c7 := hRd.2 (k - 7) (by omega)
          have c16 := hRd.2 (k - 16) (by omega)
          have HN : Hid (sched B (k + 1) = sched B k ++ [((sched B k).getD (k - 16) 0 + low0 ((sched B k).getD (k - 15) 0) + (sched B k).getD (k - 7) 0 + low1 ((sched B k).getD (k - 2) 0)) % 4294967296]) := Lib.hid (by rw [sched, if_neg (by omega), nextW, e])
          have gl : ∀ j, j < k → (sched B k).getD j 0 < 4294967296 := fun j hj => hl _ (by rw [List.getD_eq_getElem?_getD, List.getElem?_eq_getElem (by omega)]; exact List.getElem_mem _)
          have l2 := gl (k - 2) (by omega)
          have l15 := gl (k - 15) (by omega)
          obtain ⟨L, hL⟩ : ∃ x, (sched B k).getD (k - 2) 0 = x := ⟨_, rfl⟩
          obtain ⟨C, hC⟩ : ∃ x, (sched B k).getD (k - 7) 0 = x := ⟨_, rfl⟩
          obtain ⟨E, hE⟩ : ∃ x, (sched B k).getD (k - 15) 0 = x := ⟨_, rfl⟩
          obtain ⟨A, hA⟩ : ∃ x, (sched B k).getD (k - 16) 0 = x := ⟨_, rfl⟩
          rw [hL] at c2 l2 HN
          rw [hE] at c15 l15 HN
          rw [hA] at c16 HN
          rw [hC] at c7 HN
          have q0 := low0_int E l15
          have q1 := low1_int L l2
          have hsum := sum_wrap A (low0 E) C (low1 L)
          obtain ⟨x0, hx0⟩ : ∃ x, low0 E = x := ⟨_, rfl⟩
          obtain ⟨x1, hx1⟩ : ∃ x, low1 L = x := ⟨_, rfl⟩
          rw [hx0] at q0 hsum HN
          rw [hx1] at q1 hsum HN
          obtain ⟨N, hN⟩ : ∃ N, (A + x0 + C + x1) % 4294967296 = N := ⟨_, rfl⟩
          rw [hN] at hsum HN
          have C7 := Lib.hid c7
          have C16 := Lib.hid c16
          have HSm := Lib.hid hsum
          clear e hl gl hL hC hE hA hown hRd hx0 hx1 hN c7 c16 hsum
          go_wp2_with fail
          refine (rturn_like E l15 _ (by decide) (by decide) _).mono ?_
          rintro e v1 ⟨rfl, k1⟩
          go_wp2_with fail
          refine (rturn_like E l15 _ (by decide) (by decide) _).mono ?_
          rintro e v2 ⟨rfl, k2⟩
          go_wp2_with fail
          refine (rturn_like L l2 _ (by decide) (by decide) _).mono ?_
          rintro e v3 ⟨rfl, k3⟩
          go_wp2_with fail
          refine (rturn_like L l2 _ (by decide) (by decide) _).mono ?_
          rintro e w2 ⟨rfl, k4⟩
          have hlk := ((k1.trans k2).trans k3).trans k4
          have hb2 := hlk.below hb
          have HO2 := Lib.hid (hlk.own HOl.out)
          have c7 := hlk.cell C7.out
          have c16 := hlk.cell C16.out
          clear hlk k1 k2 k3 k4
          clear c2 c15 C7 C16 HOl hb
          obtain ⟨p, hp⟩ : ∃ p, k - 7 = p := ⟨_, rfl⟩
          obtain ⟨q, hq⟩ : ∃ q, k - 16 = q := ⟨_, rfl⟩
          have yp : IntKind.i64.wrap ((k : Int) - 7) = (p : Int) := by rw [IntKind.wrap_i64]; omega
          have yq : IntKind.i64.wrap ((k : Int) - 16) = (q : Int) := by rw [IntKind.wrap_i64]; omega
          have hpk : p < k := by omega
          have hqk : q < k := by omega
          have hpz : (p : Int) < (k : Int) := by omega
          have hqz : (q : Int) < (k : Int) := by omega
          rw [hp] at c7
          rw [hq] at c16
          have hsum := HSm.out
          have HO : Hid (∀ o, (World.alloc w2.drew o).ownsRow w.heap.size 79 1 (.slice (some ⟨g, 0, none⟩) k cap) k (words (sched B k))) := Lib.hid fun o => World.ownsRow.alloc (w := w2.drew) HO2.out o
          have hb3 : Below w.heap.size w (World.alloc w2.drew (.cells #[.int .u32 (N : Int)] 79)) := hb2.drew.alloc hb2.drew.size _
          have HL1 : Hid (k + 1 ≤ maxLen ∧ (k + 1) * 4 ≤ 140737488355328) := Lib.hid (by unfold maxLen; omega)
          clear hp hq
          go_wp2_with fail
          go_region_law (first | (refine step_own _ rfl _ _ 84 rfl w.heap.size 79 i0 (.int .u32 0) 1 4 Tryd.underlying84 hi hz0 hz1 hz2 rfl (by decide) (.slice (some ⟨g, 0, none⟩) k cap) k (words (sched B k)) rfl (HO.out _) ⟨w2.heap.size, 0, none⟩ 1 1 (words [N]) rfl rfl (builtW w2.drew [N] _) (words_mem _) HL1.out.1 HL1.out.2 hb3.size ?_; intro v5 w5 hown5 hgr5))
          all_goals
            have hown6 : w5.ownsRow w.heap.size 79 1 v5 (k + 1) (words (sched B (k + 1))) := by rw [HN.out, words_snoc]; exact hown5
            have b5 : Below w.heap.size w w5 := hb3.grown hgr5 hb3.size (fun j hj => (HO2.out.lt j hj).1)
            clear hown5 hgr5 hsum yp yq HO HO2 q0 q1 c7 c16
            go_wp2
            go_roundw
            case rel => exact ⟨k + 1, by omega, by omega, by go_num, hown6, b5⟩
            case measure => simp [intOf]; omega
        · have hm : k = 64 := by omega
          have hnz : ¬ (k : Int) < 64 := by omega
          obtain ⟨g, cap, rfl⟩ : ∃ g cap, u7 = .slice (some ⟨g, 0, none⟩) k cap := by
            rcases hown.2 with ⟨_, h0⟩ | ⟨g, cap, cur, h, _⟩
            · omega
            · exact ⟨g, cap, h⟩
          have HRw : Hid (Reads wr g (sched B 64)) := Lib.hid (hm ▸ Reads.of_own hown (sched_length B k).symm)
          have HHr := Lib.hid (HH.out.below hb)
          have HN8 := Lib.hid (news_of HHr.out)
          clear hown
          go_wp2_with (at_builtin; refine wpList_append_own _ rfl _ _ 84 rfl w.heap.size 79 i0 (.int .u32 0) 1 4 Tryd.underlying84 hi hz0 hz1 hz2 rfl (by decide) (.slice none 0 0) 0 [] rfl (World.ownsRow_nil _ _ _ _) ⟨gh, 0, none⟩ 8 ch (words S.list) rfl rfl HN8.out (words_mem _) (by decide) (by decide) hb.size ?_; intro v5 w5 hown5 hgr5 _)
          have b5w : Below wr.heap.size wr w5 := (Below.refl _ wr).grown hgr5 (Nat.le_refl _) (fun j hj => by cases hj)
          have b5 : Below w.heap.size w w5 := hb.trans (b5w.mono hb.size)
          have HO5 : Hid (w5.ownsRow w.heap.size 79 1 v5 8 (words S.list)) := Lib.hid hown5
          have HRw5 := Lib.hid (HRw.out.below b5w)
          clear hm hnz hown5 hgr5 b5w HRw HHr HN8 hb
          go_loopw [14, 15] (fun v i wr => ∃ (k : Nat) (t : St), k ≤ 64 ∧ i = .int .i64 k ∧ t = steps cubes (sched B 64) S k ∧ wr.ownsRow w.heap.size 79 1 v 8 (words t.list) ∧ Reads wr g (sched B 64) ∧ Below w.heap.size w wr) (fun _ i _ => 64 - (intOf i).toNat)
          case atStart => exact ⟨0, S, Nat.zero_le _, rfl, rfl, HO5.out, HRw5.out, b5⟩
          case round =>
            clear HO5 HRw5 b5 hlt hk hk1
            obtain ⟨k, ⟨A, B', C, D, E, F, G, H⟩, hk, rfl, ht, hown, hRw, hb⟩ := hrel
            have hok : (⟨A, B', C, D, E, F, G, H⟩ : St).ok := by rw [ht]; exact steps_ok _ _ hS _
            have HT := Lib.hid ht
            obtain ⟨lA, lB, lC, lD, lE, lF, lG, lH⟩ := hok
            obtain ⟨gv, cv, rfl⟩ : ∃ gv cv, u14 = .slice (some ⟨gv, 0, none⟩) 8 cv := by
              rcases hown.2 with ⟨_, h0⟩ | ⟨g, cap, cur, h, _⟩
              · omega
              · exact ⟨g, cap, h⟩
            have hRv := (Reads.of_own hown rfl).2
            have c0 : wr.cell? ⟨gv, 0, none⟩ = some (.int .u32 (A : Int)) := hRv 0 (by show 0 < 8; omega)
            have c1 : wr.cell? ⟨gv, 1, none⟩ = some (.int .u32 (B' : Int)) := hRv 1 (by show 1 < 8; omega)
            have c2 : wr.cell? ⟨gv, 2, none⟩ = some (.int .u32 (C : Int)) := hRv 2 (by show 2 < 8; omega)
            have c3 : wr.cell? ⟨gv, 3, none⟩ = some (.int .u32 (D : Int)) := hRv 3 (by show 3 < 8; omega)
            have c4 : wr.cell? ⟨gv, 4, none⟩ = some (.int .u32 (E : Int)) := hRv 4 (by show 4 < 8; omega)
            have c5 : wr.cell? ⟨gv, 5, none⟩ = some (.int .u32 (F : Int)) := hRv 5 (by show 5 < 8; omega)
            have c6 : wr.cell? ⟨gv, 6, none⟩ = some (.int .u32 (G : Int)) := hRv 6 (by show 6 < 8; omega)
            have c7 : wr.cell? ⟨gv, 7, none⟩ = some (.int .u32 (H : Int)) := hRv 7 (by show 7 < 8; omega)
            have HOl := Lib.hid hown
            have HRl := Lib.hid hRw
            clear ht hRv hown hRw
            by_cases hlt : k < 64
            · have hltz : (k : Int) < 64 := by omega
              have cK := (HK.out.below hb).2 k hlt
              have cW := HRl.out.2 k (by rw [sched_length]; exact hlt)
              obtain ⟨K, hK⟩ : ∃ K, cubes.getD k 0 = K := ⟨_, rfl⟩
              obtain ⟨W, hW⟩ : ∃ W, (sched B 64).getD k 0 = W := ⟨_, rfl⟩
              rw [hK] at cK
              rw [hW] at cW
              have HS : Hid (steps cubes (sched B 64) S (k + 1) = step K W ⟨A, B', C, D, E, F, G, H⟩) := Lib.hid (by rw [steps, hK, hW, ← HT.out])
              have q1 := big1_int E lE
              have q0 := big0_int A lA
              have qc := cho_intI E F G lE lF lG
              have qm := maj_int A B' C lA lB lC
              have HA : Hid ((step K W ⟨A, B', C, D, E, F, G, H⟩).list = [(H + big1 E + cho E F G + K + W + big0 A + maj A B' C) % 4294967296, A, B', C, (D + (H + big1 E + cho E F G + K + W)) % 4294967296, E, F, G]) := Lib.hid rfl
              obtain ⟨x1, h1⟩ : ∃ x, big1 E = x := ⟨_, rfl⟩
              obtain ⟨x0, h0⟩ : ∃ x, big0 A = x := ⟨_, rfl⟩
              obtain ⟨xc, hc⟩ : ∃ x, cho E F G = x := ⟨_, rfl⟩
              obtain ⟨xm, hm⟩ : ∃ x, maj A B' C = x := ⟨_, rfl⟩
              rw [h1] at q1 HA
              rw [h0] at q0 HA
              rw [hc] at qc HA
              rw [hm] at qm HA
              have o1 : (((H : Int) + (x1 : Int) + (xc : Int) + (K : Int)) % 4294967296 + (W : Int)) % 4294967296 = (((H + x1 + xc + K + W) % 4294967296 : Nat) : Int) := by omega
              have o2 : ((x0 : Int) + (xm : Int)) % 4294967296 = (((x0 + xm) % 4294967296 : Nat) : Int) := by omega
              obtain ⟨O, hO⟩ : ∃ O, (H + x1 + xc + K + W) % 4294967296 = O := ⟨_, rfl⟩
              obtain ⟨T, hT⟩ : ∃ T, (x0 + xm) % 4294967296 = T := ⟨_, rfl⟩
              rw [hO] at o1
              rw [hT] at o2
              have o3 := two_wrap O T
              have o4 := two_wrap D O
              have HL : Hid ((step K W ⟨A, B', C, D, E, F, G, H⟩).list = [(O + T) % 4294967296, A, B', C, (D + O) % 4294967296, E, F, G]) := Lib.hid (by
                rw [HA.out, show (H + x1 + xc + K + W + x0 + xm) % 4294967296 = (O + T) % 4294967296 by omega, show (D + (H + x1 + xc + K + W)) % 4294967296 = (D + O) % 4294967296 by omega])
              obtain ⟨a', ha'⟩ : ∃ a, (O + T) % 4294967296 = a := ⟨_, rfl⟩
              obtain ⟨e', he'⟩ : ∃ a, (D + O) % 4294967296 = a := ⟨_, rfl⟩
              rw [ha'] at o3 HL
              rw [he'] at o4 HL
              have O1 := Lib.hid o1
              have O2 := Lib.hid o2
              have O3 := Lib.hid o3
              have O4 := Lib.hid o4
              clear hK hW h0 h1 hc hm hO hT ha' he' HA HT o1 o2 o3 o4
              go_wp2
              go_quiet ((go_at_call 67; exact Calls.quiet_of (rturn_any E lE _ (by decide) (by decide) _)))
              rw [O1.out]
              have hlk : Like wr (wr.drewN nq) := ⟨nq, rfl⟩
              generalize wr.drewN nq = w2 at hlk ⊢
              have d0 := hlk.cell c0
              have d1 := hlk.cell c1
              have d2 := hlk.cell c2
              have d3 := hlk.cell c3
              have d4 := hlk.cell c4
              have d5 := hlk.cell c5
              have d6 := hlk.cell c6
              have hb2 := hlk.below hb
              have HRl2 := Lib.hid (hlk.reads HRl.out)
              clear c0 c1 c2 c3 c4 c5 c6 c7 cK cW hb HRl hlk q1 qc HOl
              go_wp2
              go_quiet ((go_at_call 67; exact Calls.quiet_of (rturn_any A lA _ (by decide) (by decide) _)))
              rw [O2.out]
              have hlk : Like w2 (w2.drewN nq) := ⟨nq, rfl⟩
              generalize w2.drewN nq = w3 at hlk ⊢
              have c1 := hlk.cell d1
              have c2 := hlk.cell d2
              have c3 := hlk.cell d3
              have c5 := hlk.cell d5
              have c6 := hlk.cell d6
              have hb3 := hlk.below hb2
              have HRl3 := Lib.hid (hlk.reads HRl2.out)
              clear d0 d1 d2 d3 d4 d5 d6 hb2 HRl2 hlk q0 qm
              have o3 := O3.out
              have o4 := O4.out
              go_wp2
              refine wp_region_still_tail 22 (by kernel_rfl) (by kernel_rfl) ?_
              simp only [List.take_succ_cons, List.take_zero, List.drop_succ_cons, List.drop_zero]
              change wpStill _ _ w3.drew (fun a' => wpList _ _ _ _ a' w3.drew) _ _
              repeat still_step
              refine wpStill_nil ?_
              have HOn : Hid ((World.alloc w3.drew (.cells (words (step K W ⟨A, B', C, D, E, F, G, H⟩).list).toArray 79)).ownsRow w.heap.size 79 1 (.slice (some ⟨w3.heap.size, 0, none⟩) 8 8) 8 (words (step K W ⟨A, B', C, D, E, F, G, H⟩).list)) := Lib.hid (World.ownsRow_lit (base := w.heap.size) (e := 79) (size := 1) w3.drew (words (step K W ⟨A, B', C, D, E, F, G, H⟩).list).toArray 8 hb3.size (by decide) rfl)
              rw [HL.out] at HOn
              have HRn := Lib.hid (HRl3.out.below (show Below w3.heap.size w3 (World.alloc w3.drew (.cells #[.int .u32 (a' : Int), .int .u32 (A : Int), .int .u32 (B' : Int), .int .u32 (C : Int), .int .u32 (e' : Int), .int .u32 (E : Int), .int .u32 (F : Int), .int .u32 (G : Int)] 79)) from (Below.refl _ w3).drew.alloc (Nat.le_refl _) _))
              have hb4 : Below w.heap.size w (World.alloc w3.drew (.cells #[.int .u32 (a' : Int), .int .u32 (A : Int), .int .u32 (B' : Int), .int .u32 (C : Int), .int .u32 (e' : Int), .int .u32 (E : Int), .int .u32 (F : Int), .int .u32 (G : Int)] 79)) := hb3.drew.alloc hb3.drew.size _
              clear c1 c2 c3 c5 c6 hb3 HRl3 o3 o4
              go_wp2
              go_roundw
              case rel => exact ⟨k + 1, _, by omega, by go_num, HS.out.symm, by rw [HL.out]; exact HOn.out, HRn.out, hb4⟩
              case measure => simp [intOf]; omega
            · have hm : k = 64 := by omega
              have hnz : ¬ (k : Int) < 64 := by omega
              obtain ⟨t, htt⟩ : ∃ t : St, t = ⟨A, B', C, D, E, F, G, H⟩ := ⟨_, rfl⟩
              rw [← htt] at HOl HT
              have HC : Hid (addL S t 8 = (comp S B).list) := Lib.hid (by rw [addL_all, HT.out, hm]; rfl)
              have HB0 := Lib.hid hb
              clear hm htt c0 c1 c2 c3 c4 c5 c6 c7 HRl hb
              go_wp2
              go_loopw [20] (fun i wr => ∃ k : Nat, k ≤ 8 ∧ i = .int .i64 k ∧ wr.ownsRow w.heap.size 79 1 (.slice (some ⟨gv, 0, none⟩) 8 cv) 8 (words (addL S t k)) ∧ Below w.heap.size w wr) (fun i _ => 8 - (intOf i).toNat)
              case atStart => exact ⟨0, Nat.zero_le _, rfl, HOl.out, HB0.out⟩
              case round =>
                clear hnz HB0 HOl hlt hk
                obtain ⟨k, hk, rfl, hown, hb⟩ := hrel
                by_cases hlt : k < 8
                · have hltz : (k : Int) < 8 := by omega
                  have cv0 := (Reads.of_own hown (addL_len S t k).symm).2 k (by rw [addL_len]; exact hlt)
                  have ch0 := (HH.out.below hb).2 k hlt
                  have fv := World.ownsRow.frozenAt hown k
                  rw [addL_at S t k hlt] at cv0
                  have HSt := Lib.hid (World.ownsRow.stored hown k (.int .u32 (((t.list.getD k 0 + S.list.getD k 0) % 4294967296 : Nat) : Int)))
                  have HSe := Lib.hid (addL_set S t k hlt)
                  have hgv := (hown.lt gv rfl).1
                  obtain ⟨p, hp⟩ : ∃ p, t.list.getD k 0 = p := ⟨_, rfl⟩
                  obtain ⟨q, hq⟩ : ∃ q, S.list.getD k 0 = q := ⟨_, rfl⟩
                  rw [hp] at cv0 HSt HSe
                  rw [hq] at ch0 HSt HSe
                  have o1 := two_wrap p q
                  obtain ⟨N, hN⟩ : ∃ N, (p + q) % 4294967296 = N := ⟨_, rfl⟩
                  rw [hN] at o1 HSt HSe
                  have hb2 : Below w.heap.size w (World.setCell wr ⟨gv, k, none⟩ (.int .u32 (N : Int))) := hb.setCell hgv _
                  clear hp hq hN hown
                  go_wp2
                  refine wp_region_still_tail 12 (by kernel_rfl) (by kernel_rfl) ?_
                  simp only [List.take_succ_cons, List.take_zero, List.drop_succ_cons, List.drop_zero]
                  change wpStill _ _ wr.drew (fun a' => wpList _ _ _ _ a' wr.drew) _ _
                  repeat still_step
                  refine wpStill_nil ?_
                  clear o1
                  go_wp2
                  go_roundw
                  case rel => exact ⟨k + 1, by omega, by go_num, by have := HSt.out.1; rw [words_set, HSe.out] at this; exact this, hb2.drew⟩
                  case measure => simp [intOf]; omega
                · have hm : k = 8 := by omega
                  have hnz : ¬ (k : Int) < 8 := by omega
                  have HF : Hid (Reads wr gv (comp S B).list) := Lib.hid (by rw [← HC.out]; exact hm ▸ Reads.of_own hown (addL_len S t k).symm)
                  clear hm hown
                  go_wp2
                  go_ret
                  exact ⟨⟨gv, cv, rfl, HF.out⟩, hb⟩
end Go.Proofs.YthopegokjbibmaaDoor.Sha
