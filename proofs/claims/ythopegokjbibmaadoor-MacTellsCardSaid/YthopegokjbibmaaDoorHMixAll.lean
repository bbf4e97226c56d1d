/- What sha.mixAll answers of any eight words and any text: the words behind all its whole blocks; of memory that was there nothing turns. -/
import Derived.Test.YthopegokjbibmaaDoorHMix
import Derived.Lib.BufferWrite
import Derived.Lib.SlBuf
namespace Go.Proofs.YthopegokjbibmaaDoor.Sha
open Go.RowKit

theorem one5 : (Tryd.prog.info? 5).map (·.size) = some 1 := by kernel_rfl
/-- The first 64 bytes of a text are copied over a block. -/
theorem run_copy_block (w : World) (g : Nat) (cur : Array Value) (t ty : TypeId) (s : ByteArray) (hg : w.heap[g]? = some (.cells cur t)) (hc : cur.size = 64) (hs : 64 ≤ s.size) :
    (Builtin.copy_ #[52, 9] ty #[.slice (some ⟨g, 0, none⟩) 64 64, .string s]).run Tryd.prog w = .ok (goInt 64) (w.setRow g (vals (s.data.toList.take 64)).toArray) := by
  have hlen : (vals (s.data.toList.take 64)).length = 64 := by rw [vals_length, List.length_take, size_list]; omega
  have hst := run_storeCells_at Tryd.prog g 0 t (vals (s.data.toList.take 64)) 0 cur w hg (by rw [hlen]; omega) (vals_one _)
  have hmin : Nat.min s.size 64 = 64 := Nat.min_eq_right hs
  have htk : List.take 64 (List.map (fun b : UInt8 => Value.int IntKind.u8 (b.toNat : Int)) s.data.toList) = vals (s.data.toList.take 64) := by
    rw [← List.map_take]; rfl
  have hdr : cur.toList.drop 64 = [] := List.drop_of_length_le (by rw [Array.length_toList]; omega)
  rw [hlen] at hst
  simp only [Nat.add_zero, Nat.zero_add, List.take_zero, List.nil_append, hdr, List.append_nil] at hst
  have hs1 := one5
  cases hq : Tryd.prog.info? 5 with
  | none => simp [hq] at hs1
  | some i =>
    simp [Builtin.copy_, run_underlying Tryd.underlying52, Builtin.lenOf, Builtin.firstCells, sizeOf, typeInfo, hq, hmin]
    rw [htk, hst]
    simp [Result.andThen]
theorem extract_take (s : ByteArray) (i : Nat) : s.extract 0 i = str (s.data.toList.take i) := by
  apply ByteArray.ext
  apply Array.toList_inj.1
  rw [Lib.extract_data]
  simp [str]
theorem extract_drop (s : ByteArray) (i : Nat) : s.extract i s.size = str (s.data.toList.drop i) := by
  apply ByteArray.ext
  apply Array.toList_inj.1
  rw [Lib.extract_data]
  simp [str]
  rw [List.take_of_length_le (by rw [List.length_drop, size_list]; omega)]
/-- What mixAll has laid. -/
def Ma (w : World) (s : St) (H : Nat) (wr : World) : Prop :=
  Below w.heap.size w wr ∧ wr.heap[H]? = some (.cells (words s.list).toArray 80) ∧
    wr.heap[H + 1]? = some (.cells (words [0, 0, 0, 0, 0, 0, 0, 0]).toArray 80) ∧ ∃ b : List UInt8, b.length = 64 ∧ wr.heap[H + 1 + 1]? = some (.cells (vals b).toArray 83)
theorem Ma.start (w : World) (s : St) : Ma w s w.heap.size (((w.alloc (.cells (words s.list).toArray 80)).alloc (.cells (words [0, 0, 0, 0, 0, 0, 0, 0]).toArray 80)).alloc (.cells (vals (List.replicate 64 0)).toArray 83)) := by
  refine ⟨((((Below.refl _ _).alloc (Nat.le_refl _) _).alloc (by simp) _).alloc (by simp; omega) _), ?_, ?_, List.replicate 64 0, List.length_replicate .., ?_⟩
  · rw [heap_alloc_old _ _ (by simp; omega), heap_alloc_old _ _ (by simp)]
    exact heap_alloc_new _ _
  · rw [heap_alloc_old _ _ (by simp)]
    have := heap_alloc_new (w.alloc (.cells (words s.list).toArray 80)) (.cells (words [0, 0, 0, 0, 0, 0, 0, 0]).toArray 80)
    rwa [World.size_alloc] at this
  · have := heap_alloc_new ((w.alloc (.cells (words s.list).toArray 80)).alloc (.cells (words [0, 0, 0, 0, 0, 0, 0, 0]).toArray 80)) (.cells (vals (List.replicate 64 0)).toArray 83)
    rwa [World.size_alloc, World.size_alloc] at this
theorem words_size8 (s : St) : (words s.list).toArray.size = 8 := rfl
set_option maxHeartbeats 1000000 in
set_option maxRecDepth 100000 in
theorem mixAll_any (s : St) (hs : s.ok) (x0 : ByteArray) (w : World) (hR : Roots w) :
    Calls Tryd.prog 52 #[.agg (words s.list).toArray, .string x0] w fun e w' => e = .returned (.agg (words (comps s x0.data.toList (x0.size / 64)).list).toArray) ∧ Below w.heap.size w w' := by
  have HR := Lib.hid hR
  clear hR
  obtain ⟨c, hc⟩ : ∃ c, c = (words s.list).toArray := ⟨_, rfl⟩
  have HS := Ma.start w s
  rw [← hc] at HS ⊢
  have HS := Lib.hid HS
  clear hc
  go_enter Tryd.func52, Tryd.ntmps52
  go_wp2
  go_loopw [1] (fun v wr => ∃ (k : Nat) (x : ByteArray), v = .string x ∧ x.size ≤ x0.size ∧ x.data.toList = x0.data.toList.drop (64 * k) ∧ 64 * k ≤ x0.size ∧ Ma w (comps s x0.data.toList k) w.heap.size wr ∧ Roots wr) (fun v _ => match v with | .string x => x.size | _ => 0)
  case atStart =>
    refine ⟨0, x0, rfl, Nat.le_refl _, rfl, Nat.zero_le _, HS.out, HR.out.below HS.out.1⟩
  case round =>
    obtain ⟨k, x, rfl, hxx, hx, hk, hM, hRr⟩ := hrel
    have HX := Lib.hid hx
    have hxs : x.size = x0.size - 64 * k := by have := congrArg List.length hx; rw [size_list, List.length_drop, size_list] at this; exact this
    have HXs := Lib.hid hxs
    clear hx hxs HS
    by_cases hlt : 64 ≤ x.size
    · have hltz : (64 : Int) ≤ (x.size : Int) := by omega
      obtain ⟨hbl, hH, hZ, b, hb64, hB⟩ := hM
      have hcp := run_copy_block wr (w.heap.size + 1 + 1) _ _ 3 x hB (by rw [List.size_toArray, vals_length, hb64]) hlt
      obtain ⟨t, ht⟩ : ∃ t, comps s x0.data.toList k = t := ⟨_, rfl⟩
      obtain ⟨bl, hbl'⟩ : ∃ bl, x.data.toList.take 64 = bl := ⟨_, rfl⟩
      have hbl64 : bl.length = 64 := by rw [← hbl', List.length_take, size_list]; omega
      have hok : t.ok := by rw [← ht]; exact comps_ok hs _ _
      have HN : Hid (comps s x0.data.toList (k + 1) = comp t bl) := Lib.hid (by rw [comps, ht, ← HX.out, hbl'])
      rw [ht] at hH
      rw [hbl'] at hcp
      have hw2 : Below w.heap.size w (wr.setRow (w.heap.size + 1 + 1) (vals bl).toArray) := setRow_below hbl (by omega) _
      have hH2 : (wr.setRow (w.heap.size + 1 + 1) (vals bl).toArray).heap[w.heap.size]? = some (.cells (words t.list).toArray 80) := (setRow_other _ _ _ _ (by omega)).trans hH
      have hZ2 : (wr.setRow (w.heap.size + 1 + 1) (vals bl).toArray).heap[w.heap.size + 1]? = some (.cells (words [0, 0, 0, 0, 0, 0, 0, 0]).toArray 80) := (setRow_other _ _ _ _ (by omega)).trans hZ
      have hB2 : (wr.setRow (w.heap.size + 1 + 1) (vals bl).toArray).heap[w.heap.size + 1 + 1]? = some (.cells (vals bl).toArray 83) := setRow_heap _ _ _ _ _ _ hB
      have hR2 : Roots (wr.setRow (w.heap.size + 1 + 1) (vals bl).toArray) := HR.out.below hw2
      obtain ⟨w2, hw⟩ : ∃ w2, wr.setRow (w.heap.size + 1 + 1) (vals bl).toArray = w2 := ⟨_, rfl⟩
      rw [hw] at hcp hw2 hH2 hZ2 hB2 hR2
      obtain ⟨c1, hc1⟩ : ∃ c, (words t.list).toArray = c := ⟨_, rfl⟩
      obtain ⟨c2, hc2⟩ : ∃ c, (vals bl).toArray = c := ⟨_, rfl⟩
      have HC := Lib.hid (mix_any t hok bl hbl64 w2 hR2)
      rw [hc1, hc2] at HC
      rw [hc1] at hH2
      rw [hc2] at hB2
      have z1 : c1.size = 8 := by rw [← hc1]; rfl
      have z2 : c2.size = 64 := by rw [← hc2, List.size_toArray, vals_length, hbl64]
      have HB2 : Hid ((vals bl).toArray = c2) := Lib.hid hc2
      have H1 := Lib.hid hH2
      have H2 := Lib.hid hZ2
      have H3 := Lib.hid hB2
      have HL := Lib.hid hw2
      have HR2 := Lib.hid hR2
      have HY : Hid ((x.extract 64 x.size).data.toList = x0.data.toList.drop (64 * (k + 1))) := Lib.hid (by
        rw [extract_drop, str_toList, HX.out, List.drop_drop, show 64 * k + 64 = 64 * (k + 1) by omega])
      have HYs : Hid ((x.extract 64 x.size).size = x.size - 64) := Lib.hid (by rw [ByteArray.size_extract]; omega)
      clear hH hZ hB hbl hb64 ht hbl' hbl64 hok hw hc1 hc2 hH2 hZ2 hB2 hw2 hR2 hRr
      go_wp2_with (first | (refine load_row w2 rfl _ 80 rfl w.heap.size c1 8 79 rfl H1.out Tryd.underlying80 (by rw [size36, z1]) ?_) | (refine load_row w2 rfl _ 83 rfl (w.heap.size + 1 + 1) c2 64 5 rfl H3.out Tryd.underlying83 (by rw [size43, z2]) ?_))
      refine HC.out.mono ?_
      rintro e w3 ⟨rfl, hb3⟩
      have hbl3 := HL.out.trans (hb3.mono HL.out.size)
      have h1 := (hb3.block _ (Array.getElem?_eq_some_iff.1 H1.out).1).trans H1.out
      have h2 := (hb3.block _ (Array.getElem?_eq_some_iff.1 H2.out).1).trans H2.out
      have h3 := (hb3.block _ (Array.getElem?_eq_some_iff.1 H3.out).1).trans H3.out
      have HF : Hid (Ma w (comps s x0.data.toList (k + 1)) w.heap.size (w3.setRow w.heap.size (words (comp t bl).list).toArray)) := Lib.hid ⟨setRow_below hbl3 (Nat.le_refl _) _, by rw [HN.out]; exact setRow_heap _ _ _ _ _ _ h1, (setRow_other _ _ _ _ (by omega)).trans h2, bl, by have := z2; rw [← HB2.out, List.size_toArray, vals_length] at this; exact this, by rw [HB2.out]; exact (setRow_other _ _ _ _ (by omega)).trans h3⟩
      have HR3 := Lib.hid (HR.out.below HF.out.1)
      have H1' := Lib.hid h1
      obtain ⟨c3, hc3⟩ : ∃ c, (words (comp t bl).list).toArray = c := ⟨_, rfl⟩
      have z3 : c3.size = 8 := by rw [← hc3]; rfl
      have a3 : c3.all (·.oneCell') = true := by rw [← hc3]; exact words_one _
      rw [hc3] at HF HR3 ⊢
      clear h1 h2 h3 hb3 hbl3 HL HC H1 H2 H3 HB2 HN HR2 hc3 hcp
      go_wp2_with (refine store_row w3 rfl rfl _ _ 80 rfl w.heap.size c1 c3 rfl rfl H1'.out (by rw [size36, z3]) (by rw [z1, z3]) a3 ?_)
      go_roundw
      case rel => exact ⟨k + 1, x.extract 64 x.size, rfl, by have := HYs.out; omega, HY.out, by have := HXs.out; omega, HF.out, HR3.out⟩
      case measure => have := HYs.out; simp; omega
    · have hltz : ¬ (64 : Int) ≤ (x.size : Int) := by omega
      obtain ⟨hbl, hH, hZ, _⟩ := hM
      have ek : k = x0.size / 64 := by have := HXs.out; omega
      rw [ek] at hH
      obtain ⟨c3, hc3⟩ : ∃ c, (words (comps s x0.data.toList (x0.size / 64)).list).toArray = c := ⟨_, rfl⟩
      have z3 : c3.size = 8 := by rw [← hc3]; rfl
      have a3 : c3.all (·.oneCell') = true := by rw [← hc3]; exact words_one _
      rw [hc3] at hH
      have HC := Lib.hid hc3
      clear ek hc3
      go_wp2_with (first | (refine load_row wr rfl _ 80 rfl w.heap.size c3 8 79 rfl hH Tryd.underlying80 (by rw [size36, z3]) ?_) | (refine store_row wr rfl rfl _ _ 80 rfl (w.heap.size + 1) _ c3 rfl rfl hZ (by rw [size36, z3]) (by rw [z3]; rfl) a3 ?_))
      refine bodyPost_ret (v := .agg (words (comps s x0.data.toList (x0.size / 64)).list).toArray) ?_ rfl ⟨rfl, setRow_below hbl (by omega) _⟩
      rw [HC.out]
      exact results_cell rfl _ _ _ rfl (setRow_heap wr _ _ _ _ _ hZ) Tryd.underlying80 (by rw [size36, z3])
end Go.Proofs.YthopegokjbibmaaDoor.Sha
