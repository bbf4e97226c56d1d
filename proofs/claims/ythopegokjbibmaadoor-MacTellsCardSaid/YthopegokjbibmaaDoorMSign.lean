/- What mac.Sign, mac.New and mac.putCaveat answer, for every key, text, tenant and caveat; of memory that was there nothing turns. -/
import Derived.Test.YthopegokjbibmaaDoorMTurned
import Derived.Test.YthopegokjbibmaaDoorQuiet
import Derived.Test.YthopegokjbibmaaDoorBoxes
namespace Go.Proofs.YthopegokjbibmaaDoor.Mac
open Go.RowKit Go.Proofs.YthopegokjbibmaaDoor.Sha
open Go.Proofs.YthopegokjbibmaaDoor.Boxes (set3 set3_box set3_below cells3 keep)

theorem grows {a b c : World} (h : Below a.heap.size a b) (k : Below b.heap.size b c) : Below a.heap.size a c := h.trans (k.mono h.size)
theorem glue (a b : List UInt8) : (str a ++ str b : ByteArray) = str (a ++ b) := by
  apply ByteArray.ext
  apply Array.toList_inj.1
  simp [str]
theorem glue_of (a : List UInt8) (s : ByteArray) : (str a ++ s : ByteArray) = str (a ++ s.data.toList) := by
  have := glue a s.data.toList
  rwa [str_of] at this
theorem sum_of (l : List UInt8) (hl : l.length ≤ 1152921504606846976) (w : World) (hR : Roots w) :
    Calls Tryd.prog 35 #[.string (str l)] w fun e w' => e = .returned (.string (str (sumL l))) ∧ Below w.heap.size w w' := by
  have := sum_any (str l) (by rw [str_size]; exact hl) w hR
  rwa [str_toList] at this
theorem turned_of (l : List UInt8) (hl : l.length ≤ 64) (x : UInt8) (w : World) :
    Calls Tryd.prog 36 #[.string (str l), .int .u8 (x.toNat : Int)] w fun e w' => e = .returned (.string (str (mixL l x))) ∧ Below w.heap.size w w' := by
  have := turned_any (str l) (by rw [str_size]; exact hl) x w
  rwa [str_toList] at this
set_option maxHeartbeats 1000000 in
set_option maxRecDepth 100000 in
theorem sign_any (key s : ByteArray) (hk : key.size ≤ 1125899906842624) (hs : s.size ≤ 1125899906842624) (w : World) (hR : Roots w) :
    Calls Tryd.prog 17 #[.string key, .string s] w fun e w' => e = .returned (.string (str (signL key.data.toList s.data.toList))) ∧ Below w.heap.size w w' := by
  have HR := Lib.hid hR
  obtain ⟨k, hkk⟩ : ∃ k, keyL key.data.toList = k := ⟨_, rfl⟩
  have hk64 : k.length ≤ 64 := by rw [← hkk]; exact keyL_len _
  have m1 := mixL_len hk64 0x5c
  have m2 := mixL_len hk64 0x36
  have HE : Hid (signL key.data.toList s.data.toList = sumL (mixL k 0x5c ++ sumL (mixL k 0x36 ++ s.data.toList))) := Lib.hid (by unfold signL; rw [hkk])
  obtain ⟨A, hA⟩ : ∃ A, mixL k 0x5c = A := ⟨_, rfl⟩
  obtain ⟨B, hB⟩ : ∃ B, mixL k 0x36 = B := ⟨_, rfl⟩
  have HT1 : Hid (∀ w, Calls Tryd.prog 36 #[.string (str k), .int .u8 92] w fun e w' => e = .returned (.string (str A)) ∧ Below w.heap.size w w') := Lib.hid fun w => hA ▸ turned_of k hk64 0x5c w
  have HT2 : Hid (∀ w, Calls Tryd.prog 36 #[.string (str k), .int .u8 54] w fun e w' => e = .returned (.string (str B)) ∧ Below w.heap.size w w') := Lib.hid fun w => hB ▸ turned_of k hk64 0x36 w
  rw [hA] at HE m1
  rw [hB] at HE m2
  obtain ⟨C, hC⟩ : ∃ C, sumL (B ++ s.data.toList) = C := ⟨_, rfl⟩
  have hCl : C.length = 32 := by rw [← hC]; exact sumL_len _
  have HS1 : Hid (∀ w, Roots w → Calls Tryd.prog 35 #[.string (str B ++ s)] w fun e w' => e = .returned (.string (str C)) ∧ Below w.heap.size w w') := Lib.hid fun w h => by
    rw [glue_of, ← hC]
    exact sum_of _ (by rw [List.length_append, m2, size_list]; omega) w h
  rw [hC] at HE
  have HS2 : Hid (∀ w, Roots w → Calls Tryd.prog 35 #[.string (str A ++ str C)] w fun e w' => e = .returned (.string (str (sumL (A ++ C)))) ∧ Below w.heap.size w w') := Lib.hid fun w h => by
    rw [glue]
    exact sum_of _ (by rw [List.length_append, m1, hCl]; omega) w h
  have a1 : (str A).size = 64 := by rw [str_size, m1]
  have a2 : (str B).size = 64 := by rw [str_size, m2]
  have a3 : (str C).size = 32 := by rw [str_size, hCl]
  obtain ⟨D, hD⟩ : ∃ D, str (sumL (A ++ C)) = D := ⟨_, rfl⟩
  rw [hD] at HS2
  have HE2 : Hid (str (signL key.data.toList s.data.toList) = D) := Lib.hid (by rw [HE.out]; exact hD)
  by_cases hlong : 64 < key.size
  · have hlz : (64 : Int) < (key.size : Int) := by omega
    have HK : Hid (∀ w, Roots w → Calls Tryd.prog 35 #[.string key] w fun e w' => e = .returned (.string (str k)) ∧ Below w.heap.size w w') := Lib.hid fun w h => by
      have := sum_any key (by omega) w h
      rw [show sumL key.data.toList = k by rw [← hkk]; unfold keyL; rw [if_pos (by rw [size_list]; exact hlong)]] at this
      exact this
    clear hR hkk hA hB hC hCl hk64 m1 m2 HE hD
    generalize str A = A' at HT1 HS2 a1
    generalize str B = B' at HT2 HS1 a2
    generalize str C = C' at HS1 HS2 a3
    generalize str k = k' at HT1 HT2 HK
    go_enter Tryd.func17, Tryd.ntmps17
    go_wp2_with fail
    with_reducible refine (HK.out _ HR.out).mono ?_
    rintro e w1 ⟨rfl, b1⟩
    go_wp2_with fail
    with_reducible refine (HT1.out _).mono ?_
    rintro e w2 ⟨rfl, b2⟩
    go_wp2_with fail
    with_reducible refine (HT2.out _).mono ?_
    rintro e w3 ⟨rfl, b3⟩
    have b123 := grows (grows b1 b2) b3
    go_wp2_with fail
    with_reducible refine (HS1.out _ (HR.out.below b123)).mono ?_
    rintro e w4 ⟨rfl, b4⟩
    have b1234 := grows b123 b4
    go_wp2_with fail
    with_reducible refine (HS2.out _ (HR.out.below b1234)).mono ?_
    rintro e w5 ⟨rfl, b5⟩
    go_wp2_with fail
    go_ret
    exact ⟨by rw [HE2.out]; rfl, grows b1234 b5⟩
  · have hlz : ¬ (64 : Int) < (key.size : Int) := by omega
    have HK : Hid (str k = key) := Lib.hid (by rw [← hkk]; unfold keyL; rw [if_neg (by rw [size_list]; exact hlong), str_of])
    rw [HK.out] at HT1 HT2
    clear hR hkk hA hB hC hCl hk64 m1 m2 HE hD HK
    generalize str A = A' at HT1 HS2 a1
    generalize str B = B' at HT2 HS1 a2
    generalize str C = C' at HS1 HS2 a3
    go_enter Tryd.func17, Tryd.ntmps17
    go_wp2_with fail
    with_reducible refine (HT1.out _).mono ?_
    rintro e w2 ⟨rfl, b2⟩
    go_wp2_with fail
    with_reducible refine (HT2.out _).mono ?_
    rintro e w3 ⟨rfl, b3⟩
    have b123 := grows b2 b3
    go_wp2_with fail
    with_reducible refine (HS1.out _ (HR.out.below b123)).mono ?_
    rintro e w4 ⟨rfl, b4⟩
    have b1234 := grows b123 b4
    go_wp2_with fail
    with_reducible refine (HS2.out _ (HR.out.below b1234)).mono ?_
    rintro e w5 ⟨rfl, b5⟩
    go_wp2_with fail
    go_ret
    exact ⟨by rw [HE2.out]; rfl, grows b1234 b5⟩

set_option maxHeartbeats 1000000 in
set_option maxRecDepth 100000 in
theorem new_any (key ten : ByteArray) (hk : key.size ≤ 1125899906842624) (hs : ten.size ≤ 1125899906842624) (w : World) (hR : Roots w) :
    Calls Tryd.prog 12 #[.string key, .string ten] w fun e w' => e = .returned (.agg #[.string ten, .slice none 0 0, .string (str (signL key.data.toList ten.data.toList))]) ∧ Below w.heap.size w w' := by
  have HS := Lib.hid (fun w h => sign_any key ten hk hs w h)
  have hb0 : Below w.heap.size w (w.alloc (.cells #[.string ⟨#[]⟩, .slice none 0 0, .string ⟨#[]⟩] 24)) := (Below.refl _ _).alloc (Nat.le_refl _) _
  have HR := Lib.hid (hR.below hb0)
  have hn : (w.alloc (.cells #[.string ⟨#[]⟩, .slice none 0 0, .string ⟨#[]⟩] 24)).heap[w.heap.size]? = some (.cells #[.string ⟨#[]⟩, .slice none 0 0, .string ⟨#[]⟩] 24) := heap_alloc_new _ _
  generalize str (signL key.data.toList ten.data.toList) = S at HS ⊢
  clear hR
  go_enter Tryd.func12, Tryd.ntmps12
  go_wp2_with fail
  with_reducible refine (HS.out _ HR.out).mono ?_
  rintro e w1 ⟨rfl, b1⟩
  have hh := (b1.block _ (by simp)).trans hn
  have hb := hb0.trans (b1.mono hb0.size)
  clear HR HS hn hb0 b1
  obtain ⟨c0, c1, c2, f0, f1, f2⟩ := cells3 hh
  have hres := set3_box hh (.string ten) (.slice none 0 0) (.string S)
  have hb2 := set3_below (a := .string ten) (b := .slice none 0 0) (c := .string S) hb (Nat.le_refl _)
  unfold set3 at hres hb2
  obtain ⟨e0, e1, e2, _⟩ := cells3 hres
  clear hres hh
  go_wp2
  refine bodyPost_ret (v := .agg #[.string ten, .slice none 0 0, .string S]) (by simp [results, Tryd.results12, go_sem, e0, e1, e2]) rfl ⟨rfl, hb2⟩
/-- Two values stored into one block. -/
def set2 (T : Nat) (a b : Value) (w : World) : World := (w.setCell ⟨T, 0, none⟩ a).setCell ⟨T, 1, none⟩ b
theorem set2_box {w : World} {T : Nat} {x y : Value} {t : TypeId} (h : w.heap[T]? = some (.cells #[x, y] t)) (a b : Value) : (set2 T a b w).heap[T]? = some (.cells #[a, b] t) := by
  unfold set2
  have h1 := heap_setCell_same w T 0 _ _ a h
  have h2 := heap_setCell_same _ T 1 _ _ b h1
  rw [h2]
  rfl
theorem set2_below {H T : Nat} {a b : Value} {w0 w : World} (h : Below H w0 w) (hT : H ≤ T) : Below H w0 (set2 T a b w) := (h.setCell hT _).setCell hT _
theorem cells2 {w : World} {T : Nat} {x y : Value} {t : TypeId} (h : w.heap[T]? = some (.cells #[x, y] t)) :
    w.cell? ⟨T, 0, none⟩ = some x ∧ w.cell? ⟨T, 1, none⟩ = some y ∧ w.frozen? ⟨T, 0, none⟩ = false ∧ w.frozen? ⟨T, 1, none⟩ = false :=
  ⟨cell_at h rfl, cell_at h rfl, frozen_at h, frozen_at h⟩
/-- A caveat as a value. -/
def val (c : Cav) : Value := .agg #[.int .i64 c.1, .int .u64 (c.2 : Int)]
theorem conv_kind (k : Int) (w : World) : (convert 3 25 (.int .i64 k)).run Tryd.prog w = .ok (.int .u64 (k64 k : Int)) w := by
  have : (convert 3 25 (.int .i64 k)).run Tryd.prog w = .ok (.int .u64 (IntKind.u64.wrap k)) w := by kernel_rfl
  rw [this, k64_int]
  rfl
set_option maxHeartbeats 1000000 in
set_option maxRecDepth 100000 in
theorem putCaveat_any (c : Cav) (hc : c.2 < 18446744073709551616) (w : World) :
    Calls Tryd.prog 44 #[val c] w fun e w' => e = .returned (.string (str (putC c))) ∧ Below w.heap.size w w' := by
  obtain ⟨k, n⟩ := c
  have hn : n < 18446744073709551616 := hc
  have HE : Hid (str (putC (k, n)) = Wire.str (Wire.putL (k64 k)) ++ Wire.str (Wire.putL n)) := Lib.hid (by unfold putC; exact (glue _ _).symm)
  have z1 : (Wire.str (Wire.putL (k64 k))).size ≤ 10 := by rw [Wire.str_size]; exact Wire.putL_ten (k64_lt k)
  have z2 : (Wire.str (Wire.putL n)).size ≤ 10 := by rw [Wire.str_size]; exact Wire.putL_ten hn
  have P1 : ∀ w, Calls Tryd.prog 43 #[.int .u64 (k64 k : Int)] w fun e w' => e = .returned (.string (Wire.str (Wire.putL (k64 k)))) ∧ Below w.heap.size w w' := Wire.put_any (k64 k) (k64_lt k)
  have P2 : ∀ w, Calls Tryd.prog 43 #[.int .u64 (n : Int)] w fun e w' => e = .returned (.string (Wire.str (Wire.putL n))) ∧ Below w.heap.size w w' := Wire.put_any n hn
  have hb0 : Below w.heap.size w (w.alloc (.cells #[.int .i64 k, .int .u64 (n : Int)] 27)) := (Below.refl _ _).alloc (Nat.le_refl _) _
  obtain ⟨c0, c1, _⟩ := cells2 (heap_alloc_new w (.cells #[.int .i64 k, .int .u64 (n : Int)] 27))
  have hlt : w.heap.size < (w.alloc (.cells #[.int .i64 k, .int .u64 (n : Int)] 27)).heap.size := by simp
  have hcv := conv_kind k
  generalize Wire.str (Wire.putL (k64 k)) = A at HE z1 P1
  generalize Wire.str (Wire.putL n) = B at HE z2 P2
  have HP1 := Lib.hid P1
  have HP2 := Lib.hid P2
  clear P1 P2 hc hn
  unfold val
  go_enter Tryd.func44, Tryd.ntmps44
  go_wp2
  have k0 := Quiet.cell (a := ⟨w.heap.size, 0, none⟩) hlt c0
  have k1 := Quiet.cell (a := ⟨w.heap.size, 1, none⟩) hlt c1
  clear c0 c1
  generalize k64 k = K at *
  refine Quiet.region (by kernel_rfl) (by kernel_rfl) ?_
  repeat (go_big_quiet_step (first | (go_at_call 43; (with_reducible exact Quiet.calls (HP1.out _))) | (go_at_call 43; (with_reducible exact Quiet.calls (HP2.out _)))))
  refine wpQuiet_nil ?_
  rintro _ ⟨pq, rfl⟩
  have hq := pq.below
  generalize pq.world = wq at hq ⊢
  go_wp2
  go_ret
  exact ⟨by rw [HE.out]; rfl, hb0.trans (hq.mono hb0.size)⟩
end Go.Proofs.YthopegokjbibmaaDoor.Mac
