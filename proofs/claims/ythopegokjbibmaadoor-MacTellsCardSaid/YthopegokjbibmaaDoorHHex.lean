/- What sha.Hex answers of any text of up to 2^47 bytes: two digits of each byte; of memory that was there nothing turns. -/
import Derived.Test.YthopegokjbibmaaDoorHBytes
namespace Go.Proofs.YthopegokjbibmaaDoor.Sha
open Go.RowKit

def digs : ByteArray := ⟨#[48, 49, 50, 51, 52, 53, 54, 55, 56, 57, 97, 98, 99, 100, 101, 102]⟩
theorem dig_at (n : Nat) (h : n < 16) (w : World) : (Instr.index 9 (.string ⟨#[48, 49, 50, 51, 52, 53, 54, 55, 56, 57, 97, 98, 99, 100, 101, 102]⟩) (.int .u8 (n : Int))).run Tryd.prog w = .ok (.int .u8 ((dig n).toNat : Int)) w := by
  obtain rfl | rfl | rfl | rfl | rfl | rfl | rfl | rfl | rfl | rfl | rfl | rfl | rfl | rfl | rfl | rfl : n = 0 ∨ n = 1 ∨ n = 2 ∨ n = 3 ∨ n = 4 ∨ n = 5 ∨ n = 6 ∨ n = 7 ∨ n = 8 ∨ n = 9 ∨ n = 10 ∨ n = 11 ∨ n = 12 ∨ n = 13 ∨ n = 14 ∨ n = 15 := by omega
  all_goals kernel_rfl
theorem hexL_snoc (l : List UInt8) (c : UInt8) : hexL (l ++ [c]) = hexL l ++ [dig (c.toNat / 16), dig (c.toNat % 16)] := by rw [hexL_append]; rfl
theorem take_snoc (s : ByteArray) (k : Nat) (h : k < s.size) : s.data.toList.take (k + 1) = s.data.toList.take k ++ [s[k]] := by
  rw [List.take_succ_eq_append_getElem (by simpa using h)]; rfl
theorem and15 (c : Nat) (h : c < 256) : bits .and .u8 (c : Int) 15 = ((c % 16 : Nat) : Int) := by
  rw [show (15 : Int) = ((15 : Nat) : Int) from rfl, u8_and_nat _ _ h (by omega), nat_mask4]

set_option maxHeartbeats 1000000 in
set_option maxRecDepth 100000 in
theorem hex_any (s : ByteArray) (hs : s.size ≤ 140737488355328) (w : World) :
    Calls Tryd.prog 27 #[.string s] w fun e w' => e = .returned (.string (str (hexL s.data.toList))) ∧ Below w.heap.size w w' := by
  obtain ⟨w1, hmk, hown1, hb1⟩ := make_owns w (2 * s.size) (by omega)
  have hmk' : (Instr.makeSlice 52 (.int .i64 0) (.int .i64 (2 * (s.size : Int)))).run Tryd.prog w = .ok (.slice (some ⟨w.heap.size, 0, none⟩) 0 (2 * s.size)) w1 := by rw [← hmk]; simp
  have hw : IntKind.i64.wrap (2 * (s.size : Int)) = 2 * (s.size : Int) := by simp [IntKind.wrap, IntKind.bits, IntKind.signed]; omega
  clear hmk
  obtain ⟨g, hg⟩ : ∃ g, g = w.heap.size := ⟨_, rfl⟩
  have hown1' : Owns w1 w.heap.size g (2 * s.size) [] := by rw [hg]; exact hown1
  rw [← hg] at hmk'
  have HG := Lib.hid hg
  clear hg hown1
  go_enter Tryd.func27, Tryd.ntmps27
  go_wp2
  clear hmk' hw
  go_loopw [3, 11] (fun v i wr => ∃ k : Nat, k ≤ s.size ∧ i = .int .i64 k ∧ v = .slice (some ⟨g, 0, none⟩) (2 * k) (2 * s.size) ∧ Owns wr w.heap.size g (2 * s.size) (hexL (s.data.toList.take k)) ∧ Below w.heap.size w wr) (fun _ i _ => s.size - (intOf i).toNat)
  case atStart => exact ⟨0, Nat.zero_le _, rfl, rfl, hown1', hb1⟩
  case round =>
    obtain ⟨k, hk, rfl, rfl, hown, hb⟩ := hrel
    by_cases hlt : k < s.size
    · have hltz : (k : Int) < (s.size : Int) := by omega
      have HT := Lib.hid (take_snoc s k hlt)
      obtain ⟨d, hd⟩ : ∃ d, s[k] = d := ⟨_, rfl⟩
      rw [hd] at HT
      have hc : d.toNat < 256 := UInt8.toNat_lt _
      obtain ⟨a, ha⟩ : ∃ a, d.toNat / 16 = a := ⟨_, rfl⟩
      obtain ⟨b, hbb⟩ : ∃ b, d.toNat % 16 = b := ⟨_, rfl⟩
      have haz : (d.toNat : Int) / 16 = (a : Int) := by omega
      have hbz : bits .and .u8 (d.toNat : Int) 15 = (b : Int) := by rw [and15 _ hc, hbb]
      have h1 := dig_at a (by omega)
      have h2 := dig_at b (by omega)
      have HH : Hid (hexL (s.data.toList.take (k + 1)) = hexL (s.data.toList.take k) ++ [dig a, dig b]) := Lib.hid (by rw [HT.out, hexL_snoc, ha, hbb])
      have HLn : Hid ((hexL (s.data.toList.take k)).length = 2 * k) := Lib.hid (by rw [hexL_len, List.length_take, size_list]; omega)
      have HO : Hid (∀ x, Owns (wr.drew.alloc x) w.heap.size g (2 * s.size) (hexL (s.data.toList.take k))) := Lib.hid fun x => Owns.alloc (w := wr.drew) hown x
      obtain ⟨da, hda⟩ : ∃ x, dig a = x := ⟨_, rfl⟩
      obtain ⟨db, hdb⟩ : ∃ x, dig b = x := ⟨_, rfl⟩
      rw [hda] at h1 HH
      rw [hdb] at h2 HH
      have HRm : Hid ((hexL (s.data.toList.take k)).length + 2 ≤ 2 * s.size) := Lib.hid (by rw [HLn.out]; omega)
      have hb3 : Below w.heap.size w (World.alloc wr.drew (.cells #[.int .u8 (da.toNat : Int), .int .u8 (db.toNat : Int)] 5)) := hb.drew.alloc hb.drew.size _
      have hwg : w.heap.size ≤ g := Nat.le_of_eq HG.out.symm
      clear ha hbb hda hdb hown
      go_wp2_with fail
      go_region_held3 (fun _ => True) (trivial)
        (first | (refine step_fits _ rfl _ _ rfl w.heap.size g (2 * s.size) (hexL (s.data.toList.take k)) (2 * k) HLn.out rfl (HO.out _) ⟨wr.heap.size, 0, none⟩ 2 2 [da, db] rfl rfl (built wr.drew _ _) HRm.out ?_; intro w5 hown5 hgr5))
      all_goals
        have b5 : Below w.heap.size w w5 := grown hb3 hgr5 hb3.size hwg
        rw [← HH.out] at hown5
        clear hgr5
        go_wp2
        go_roundw
        case rel => exact ⟨k + 1, by omega, by go_num, by go_num, hown5, b5⟩
        case measure => simp [intOf]; omega
    · obtain rfl : k = s.size := by omega
      rw [List.take_of_length_le (by rw [size_list]; omega)] at hown
      have hcv := conv_owns hown
      have e : (hexL s.data.toList).length = 2 * s.size := by rw [hexL_len, size_list]
      rw [e] at hcv
      clear hown e
      go_wp2
      go_ret
      exact ⟨rfl, hb⟩
end Go.Proofs.YthopegokjbibmaaDoor.Sha
