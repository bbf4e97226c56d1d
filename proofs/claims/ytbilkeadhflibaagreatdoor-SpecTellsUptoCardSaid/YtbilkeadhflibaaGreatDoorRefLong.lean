/- What the document's own long answers, for every text: how many bytes the rune has that stands first, 0 if none is one; the world is as it was. -/
import Derived.Test.YtbilkeadhflibaaGreatDoorProg
import Derived.Test.YtbilkeadhflibaaGreatDoorJL4
import Derived.WalkKit
import Derived.WalkSpells
import Derived.WalkLawsBesides
import Derived.LoopTactic
import Derived.PlainAid
import Derived.Lib.Hide
import Derived.Lib.DecodeNEq
namespace Go.Proofs.YtbilkeadhflibaaGreatDoor.Word
open Go.RowKit Go.PlainAid

/-- How many bytes, by the class of the first one. -/
def slowR (n : Nat) (b1 b2 b3 : Int) (sz : Nat) (lo hi : Int) : Nat :=
  if n < sz then 0 else if b1 < lo ∨ hi < b1 then 0 else if sz ≤ 2 then 2 else if b2 < 128 ∨ 191 < b2 then 0 else if sz ≤ 3 then 3 else if b3 < 128 ∨ 191 < b3 then 0 else 4

theorem long_bad {s : ByteArray} (sz : Nat) (lo hi : Int) (k : Nat) (hk : 2 ≤ k) (hlt : k < sz) (h : ¬ s.size < sz ∧ ¬ (bt s 1 < lo ∨ hi < bt s 1)) (ha : ∀ j, 2 ≤ j → j < k → 128 ≤ bt s j ∧ bt s j ≤ 191) (hb : bt s k < 128 ∨ 191 < bt s k) (h4 : sz ≤ 4 := by omega) :
    slowR s.size (bt s 1) (bt s 2) (bt s 3) sz lo hi = 0 := by
  unfold slowR
  rw [if_neg h.1, if_neg h.2, if_neg (by omega)]
  by_cases e : k = 2
  · subst e
    rw [if_pos hb]
  · have e3 : k = 3 := by omega
    subst e3
    have := ha 2 (by omega) (by omega)
    rw [if_neg (by omega), if_neg (by omega), if_pos hb]
theorem long_good {s : ByteArray} (sz : Nat) (lo hi : Int) (h2 : 2 ≤ sz) (h4 : sz ≤ 4) (h : ¬ s.size < sz ∧ ¬ (bt s 1 < lo ∨ hi < bt s 1)) (ha : ∀ j, 2 ≤ j → j < sz → 128 ≤ bt s j ∧ bt s j ≤ 191) :
    slowR s.size (bt s 1) (bt s 2) (bt s 3) sz lo hi = sz := by
  unfold slowR
  rw [if_neg h.1, if_neg h.2]
  by_cases e : sz ≤ 2
  · rw [if_pos e]; omega
  · have a2 := ha 2 (by omega) (by omega)
    rw [if_neg e, if_neg (by omega)]
    by_cases e3 : sz ≤ 3
    · rw [if_pos e3]; omega
    · have a3 := ha 3 (by omega) (by omega)
      rw [if_neg e3, if_neg (by omega)]; omega

set_option maxRecDepth 100000 in
set_option maxHeartbeats 2000000 in
theorem long_C2 (s : ByteArray) (hs : s.size ≤ 4611686018427387904) (hn : 1 ≤ s.size) (h0 : 194 ≤ bt s 0) (h0' : bt s 0 ≤ 223) (w : World) :
    Calls Tryz.prog 126 #[.string s] w fun e w' => e = .returned (.int .i64 (slowR s.size (bt s 1) (bt s 2) (bt s 3) 2 128 191 : Nat)) ∧ w = w' := by
  have hbt := get_bt s
  have g1 := bt_nonneg s 1
  have g1' := bt_le s 1
  have e224 : (bt s 0 == 224) = false := by rw [beq_eq_false_iff_ne]; omega
  have e237 : (bt s 0 == 237) = false := by rw [beq_eq_false_iff_ne]; omega
  have e240 : (bt s 0 == 240) = false := by rw [beq_eq_false_iff_ne]; omega
  have e244 : (bt s 0 == 244) = false := by rw [beq_eq_false_iff_ne]; omega
  by_cases hsz : s.size < 2
  · have HR := Lib.hid (show slowR s.size (bt s 1) (bt s 2) (bt s 3) 2 128 191 = 0 by unfold slowR; rw [if_pos hsz])
    go_enter Tryz.func126, Tryz.ntmps126
    go_wp2
    go_ret
    exact ⟨by rw [HR.out]; rfl, rfl⟩
  have hs1 : 1 < s.size := by omega
  by_cases hlo : bt s 1 < 128
  · have HR := Lib.hid (show slowR s.size (bt s 1) (bt s 2) (bt s 3) 2 128 191 = 0 by unfold slowR; rw [if_neg hsz, if_pos (.inl hlo)])
    go_enter Tryz.func126, Tryz.ntmps126
    go_wp2
    go_ret
    exact ⟨by rw [HR.out]; rfl, rfl⟩
  by_cases hhi : 191 < bt s 1
  · have HR := Lib.hid (show slowR s.size (bt s 1) (bt s 2) (bt s 3) 2 128 191 = 0 by unfold slowR; rw [if_neg hsz, if_pos (.inr hhi)])
    go_enter Tryz.func126, Tryz.ntmps126
    go_wp2
    go_ret
    exact ⟨by rw [HR.out]; rfl, rfl⟩
  have HF : Hid (¬ s.size < 2 ∧ ¬ (bt s 1 < 128 ∨ 191 < bt s 1)) := Lib.hid ⟨hsz, by omega⟩
  go_enter Tryz.func126, Tryz.ntmps126
  go_wp2
  go_loop [7] (fun i => ∃ k : Nat, 2 ≤ k ∧ k ≤ 2 ∧ i = .int .i64 k ∧ ∀ j, 2 ≤ j → j < k → 128 ≤ bt s j ∧ bt s j ≤ 191) (fun i => 2 - (intOf i).toNat)
  case atStart => exact ⟨2, by omega, by omega, rfl, fun j h1 h2 => by omega⟩
  case round =>
    obtain ⟨k, hk2, hk, rfl, hall⟩ := hrel
    have HA := Lib.hid hall
    clear hall
    have HR := Lib.hid (long_good 2 128 191 (by omega) (by omega) HF.out (fun j h1 h2 => HA.out j h1 (by omega)))
    obtain rfl : k = 2 := by omega
    go_wp2
    go_ret
    exact ⟨by rw [HR.out]; rfl, rfl⟩

set_option maxRecDepth 100000 in
set_option maxHeartbeats 2000000 in
theorem long_E0 (s : ByteArray) (hs : s.size ≤ 4611686018427387904) (hn : 1 ≤ s.size) (h0 : bt s 0 = 224) (w : World) :
    Calls Tryz.prog 126 #[.string s] w fun e w' => e = .returned (.int .i64 (slowR s.size (bt s 1) (bt s 2) (bt s 3) 3 160 191 : Nat)) ∧ w = w' := by
  have hbt := get_bt s
  have g1 := bt_nonneg s 1
  have g1' := bt_le s 1
  by_cases hsz : s.size < 3
  · have HR := Lib.hid (show slowR s.size (bt s 1) (bt s 2) (bt s 3) 3 160 191 = 0 by unfold slowR; rw [if_pos hsz])
    go_enter Tryz.func126, Tryz.ntmps126
    go_wp2
    go_ret
    exact ⟨by rw [HR.out]; rfl, rfl⟩
  have hs1 : 1 < s.size := by omega
  by_cases hlo : bt s 1 < 160
  · have HR := Lib.hid (show slowR s.size (bt s 1) (bt s 2) (bt s 3) 3 160 191 = 0 by unfold slowR; rw [if_neg hsz, if_pos (.inl hlo)])
    go_enter Tryz.func126, Tryz.ntmps126
    go_wp2
    go_ret
    exact ⟨by rw [HR.out]; rfl, rfl⟩
  by_cases hhi : 191 < bt s 1
  · have HR := Lib.hid (show slowR s.size (bt s 1) (bt s 2) (bt s 3) 3 160 191 = 0 by unfold slowR; rw [if_neg hsz, if_pos (.inr hhi)])
    go_enter Tryz.func126, Tryz.ntmps126
    go_wp2
    go_ret
    exact ⟨by rw [HR.out]; rfl, rfl⟩
  have HF : Hid (¬ s.size < 3 ∧ ¬ (bt s 1 < 160 ∨ 191 < bt s 1)) := Lib.hid ⟨hsz, by omega⟩
  go_enter Tryz.func126, Tryz.ntmps126
  go_wp2
  go_loop [7] (fun i => ∃ k : Nat, 2 ≤ k ∧ k ≤ 3 ∧ i = .int .i64 k ∧ ∀ j, 2 ≤ j → j < k → 128 ≤ bt s j ∧ bt s j ≤ 191) (fun i => 3 - (intOf i).toNat)
  case atStart => exact ⟨2, by omega, by omega, rfl, fun j h1 h2 => by omega⟩
  case round =>
    obtain ⟨k, hk2, hk, rfl, hall⟩ := hrel
    have HA := Lib.hid hall
    clear hall
    by_cases hlt : k < 3
    · have hks : k < s.size := by omega
      by_cases hl : bt s k < 128
      · have HR := Lib.hid (long_bad 3 160 191 k hk2 hlt HF.out HA.out (.inl hl))
        go_wp2
        go_ret
        exact ⟨by rw [HR.out]; rfl, rfl⟩
      · by_cases hh : 191 < bt s k
        · have HR := Lib.hid (long_bad 3 160 191 k hk2 hlt HF.out HA.out (.inr hh))
          go_wp2
          go_ret
          exact ⟨by rw [HR.out]; rfl, rfl⟩
        · go_wp2
          go_round
          case rel => exact ⟨k + 1, by omega, by omega, by go_num, fun j h1 h2 => by
            by_cases e : j = k
            · rw [e]; omega
            · exact HA.out j h1 (by omega)⟩
          case measure => simp [intOf]; omega
    · have HR := Lib.hid (long_good 3 160 191 (by omega) (by omega) HF.out (fun j h1 h2 => HA.out j h1 (by omega)))
      go_wp2
      go_ret
      exact ⟨by rw [HR.out]; rfl, rfl⟩

set_option maxRecDepth 100000 in
set_option maxHeartbeats 2000000 in
theorem long_E1 (s : ByteArray) (hs : s.size ≤ 4611686018427387904) (hn : 1 ≤ s.size) (h0 : 225 ≤ bt s 0) (h0' : bt s 0 ≤ 236) (w : World) :
    Calls Tryz.prog 126 #[.string s] w fun e w' => e = .returned (.int .i64 (slowR s.size (bt s 1) (bt s 2) (bt s 3) 3 128 191 : Nat)) ∧ w = w' := by
  have hbt := get_bt s
  have g1 := bt_nonneg s 1
  have g1' := bt_le s 1
  have e224 : (bt s 0 == 224) = false := by rw [beq_eq_false_iff_ne]; omega
  have e237 : (bt s 0 == 237) = false := by rw [beq_eq_false_iff_ne]; omega
  have e240 : (bt s 0 == 240) = false := by rw [beq_eq_false_iff_ne]; omega
  have e244 : (bt s 0 == 244) = false := by rw [beq_eq_false_iff_ne]; omega
  by_cases hsz : s.size < 3
  · have HR := Lib.hid (show slowR s.size (bt s 1) (bt s 2) (bt s 3) 3 128 191 = 0 by unfold slowR; rw [if_pos hsz])
    go_enter Tryz.func126, Tryz.ntmps126
    go_wp2
    go_ret
    exact ⟨by rw [HR.out]; rfl, rfl⟩
  have hs1 : 1 < s.size := by omega
  by_cases hlo : bt s 1 < 128
  · have HR := Lib.hid (show slowR s.size (bt s 1) (bt s 2) (bt s 3) 3 128 191 = 0 by unfold slowR; rw [if_neg hsz, if_pos (.inl hlo)])
    go_enter Tryz.func126, Tryz.ntmps126
    go_wp2
    go_ret
    exact ⟨by rw [HR.out]; rfl, rfl⟩
  by_cases hhi : 191 < bt s 1
  · have HR := Lib.hid (show slowR s.size (bt s 1) (bt s 2) (bt s 3) 3 128 191 = 0 by unfold slowR; rw [if_neg hsz, if_pos (.inr hhi)])
    go_enter Tryz.func126, Tryz.ntmps126
    go_wp2
    go_ret
    exact ⟨by rw [HR.out]; rfl, rfl⟩
  have HF : Hid (¬ s.size < 3 ∧ ¬ (bt s 1 < 128 ∨ 191 < bt s 1)) := Lib.hid ⟨hsz, by omega⟩
  go_enter Tryz.func126, Tryz.ntmps126
  go_wp2
  go_loop [7] (fun i => ∃ k : Nat, 2 ≤ k ∧ k ≤ 3 ∧ i = .int .i64 k ∧ ∀ j, 2 ≤ j → j < k → 128 ≤ bt s j ∧ bt s j ≤ 191) (fun i => 3 - (intOf i).toNat)
  case atStart => exact ⟨2, by omega, by omega, rfl, fun j h1 h2 => by omega⟩
  case round =>
    obtain ⟨k, hk2, hk, rfl, hall⟩ := hrel
    have HA := Lib.hid hall
    clear hall
    by_cases hlt : k < 3
    · have hks : k < s.size := by omega
      by_cases hl : bt s k < 128
      · have HR := Lib.hid (long_bad 3 128 191 k hk2 hlt HF.out HA.out (.inl hl))
        go_wp2
        go_ret
        exact ⟨by rw [HR.out]; rfl, rfl⟩
      · by_cases hh : 191 < bt s k
        · have HR := Lib.hid (long_bad 3 128 191 k hk2 hlt HF.out HA.out (.inr hh))
          go_wp2
          go_ret
          exact ⟨by rw [HR.out]; rfl, rfl⟩
        · go_wp2
          go_round
          case rel => exact ⟨k + 1, by omega, by omega, by go_num, fun j h1 h2 => by
            by_cases e : j = k
            · rw [e]; omega
            · exact HA.out j h1 (by omega)⟩
          case measure => simp [intOf]; omega
    · have HR := Lib.hid (long_good 3 128 191 (by omega) (by omega) HF.out (fun j h1 h2 => HA.out j h1 (by omega)))
      go_wp2
      go_ret
      exact ⟨by rw [HR.out]; rfl, rfl⟩

set_option maxRecDepth 100000 in
set_option maxHeartbeats 2000000 in
theorem long_E2 (s : ByteArray) (hs : s.size ≤ 4611686018427387904) (hn : 1 ≤ s.size) (h0 : 238 ≤ bt s 0) (h0' : bt s 0 ≤ 239) (w : World) :
    Calls Tryz.prog 126 #[.string s] w fun e w' => e = .returned (.int .i64 (slowR s.size (bt s 1) (bt s 2) (bt s 3) 3 128 191 : Nat)) ∧ w = w' := by
  have hbt := get_bt s
  have g1 := bt_nonneg s 1
  have g1' := bt_le s 1
  have e224 : (bt s 0 == 224) = false := by rw [beq_eq_false_iff_ne]; omega
  have e237 : (bt s 0 == 237) = false := by rw [beq_eq_false_iff_ne]; omega
  have e240 : (bt s 0 == 240) = false := by rw [beq_eq_false_iff_ne]; omega
  have e244 : (bt s 0 == 244) = false := by rw [beq_eq_false_iff_ne]; omega
  by_cases hsz : s.size < 3
  · have HR := Lib.hid (show slowR s.size (bt s 1) (bt s 2) (bt s 3) 3 128 191 = 0 by unfold slowR; rw [if_pos hsz])
    go_enter Tryz.func126, Tryz.ntmps126
    go_wp2
    go_ret
    exact ⟨by rw [HR.out]; rfl, rfl⟩
  have hs1 : 1 < s.size := by omega
  by_cases hlo : bt s 1 < 128
  · have HR := Lib.hid (show slowR s.size (bt s 1) (bt s 2) (bt s 3) 3 128 191 = 0 by unfold slowR; rw [if_neg hsz, if_pos (.inl hlo)])
    go_enter Tryz.func126, Tryz.ntmps126
    go_wp2
    go_ret
    exact ⟨by rw [HR.out]; rfl, rfl⟩
  by_cases hhi : 191 < bt s 1
  · have HR := Lib.hid (show slowR s.size (bt s 1) (bt s 2) (bt s 3) 3 128 191 = 0 by unfold slowR; rw [if_neg hsz, if_pos (.inr hhi)])
    go_enter Tryz.func126, Tryz.ntmps126
    go_wp2
    go_ret
    exact ⟨by rw [HR.out]; rfl, rfl⟩
  have HF : Hid (¬ s.size < 3 ∧ ¬ (bt s 1 < 128 ∨ 191 < bt s 1)) := Lib.hid ⟨hsz, by omega⟩
  go_enter Tryz.func126, Tryz.ntmps126
  go_wp2
  go_loop [7] (fun i => ∃ k : Nat, 2 ≤ k ∧ k ≤ 3 ∧ i = .int .i64 k ∧ ∀ j, 2 ≤ j → j < k → 128 ≤ bt s j ∧ bt s j ≤ 191) (fun i => 3 - (intOf i).toNat)
  case atStart => exact ⟨2, by omega, by omega, rfl, fun j h1 h2 => by omega⟩
  case round =>
    obtain ⟨k, hk2, hk, rfl, hall⟩ := hrel
    have HA := Lib.hid hall
    clear hall
    by_cases hlt : k < 3
    · have hks : k < s.size := by omega
      by_cases hl : bt s k < 128
      · have HR := Lib.hid (long_bad 3 128 191 k hk2 hlt HF.out HA.out (.inl hl))
        go_wp2
        go_ret
        exact ⟨by rw [HR.out]; rfl, rfl⟩
      · by_cases hh : 191 < bt s k
        · have HR := Lib.hid (long_bad 3 128 191 k hk2 hlt HF.out HA.out (.inr hh))
          go_wp2
          go_ret
          exact ⟨by rw [HR.out]; rfl, rfl⟩
        · go_wp2
          go_round
          case rel => exact ⟨k + 1, by omega, by omega, by go_num, fun j h1 h2 => by
            by_cases e : j = k
            · rw [e]; omega
            · exact HA.out j h1 (by omega)⟩
          case measure => simp [intOf]; omega
    · have HR := Lib.hid (long_good 3 128 191 (by omega) (by omega) HF.out (fun j h1 h2 => HA.out j h1 (by omega)))
      go_wp2
      go_ret
      exact ⟨by rw [HR.out]; rfl, rfl⟩

set_option maxRecDepth 100000 in
set_option maxHeartbeats 2000000 in
theorem long_ED (s : ByteArray) (hs : s.size ≤ 4611686018427387904) (hn : 1 ≤ s.size) (h0 : bt s 0 = 237) (w : World) :
    Calls Tryz.prog 126 #[.string s] w fun e w' => e = .returned (.int .i64 (slowR s.size (bt s 1) (bt s 2) (bt s 3) 3 128 159 : Nat)) ∧ w = w' := by
  have hbt := get_bt s
  have g1 := bt_nonneg s 1
  have g1' := bt_le s 1
  by_cases hsz : s.size < 3
  · have HR := Lib.hid (show slowR s.size (bt s 1) (bt s 2) (bt s 3) 3 128 159 = 0 by unfold slowR; rw [if_pos hsz])
    go_enter Tryz.func126, Tryz.ntmps126
    go_wp2
    go_ret
    exact ⟨by rw [HR.out]; rfl, rfl⟩
  have hs1 : 1 < s.size := by omega
  by_cases hlo : bt s 1 < 128
  · have HR := Lib.hid (show slowR s.size (bt s 1) (bt s 2) (bt s 3) 3 128 159 = 0 by unfold slowR; rw [if_neg hsz, if_pos (.inl hlo)])
    go_enter Tryz.func126, Tryz.ntmps126
    go_wp2
    go_ret
    exact ⟨by rw [HR.out]; rfl, rfl⟩
  by_cases hhi : 159 < bt s 1
  · have HR := Lib.hid (show slowR s.size (bt s 1) (bt s 2) (bt s 3) 3 128 159 = 0 by unfold slowR; rw [if_neg hsz, if_pos (.inr hhi)])
    go_enter Tryz.func126, Tryz.ntmps126
    go_wp2
    go_ret
    exact ⟨by rw [HR.out]; rfl, rfl⟩
  have HF : Hid (¬ s.size < 3 ∧ ¬ (bt s 1 < 128 ∨ 159 < bt s 1)) := Lib.hid ⟨hsz, by omega⟩
  go_enter Tryz.func126, Tryz.ntmps126
  go_wp2
  go_loop [7] (fun i => ∃ k : Nat, 2 ≤ k ∧ k ≤ 3 ∧ i = .int .i64 k ∧ ∀ j, 2 ≤ j → j < k → 128 ≤ bt s j ∧ bt s j ≤ 191) (fun i => 3 - (intOf i).toNat)
  case atStart => exact ⟨2, by omega, by omega, rfl, fun j h1 h2 => by omega⟩
  case round =>
    obtain ⟨k, hk2, hk, rfl, hall⟩ := hrel
    have HA := Lib.hid hall
    clear hall
    by_cases hlt : k < 3
    · have hks : k < s.size := by omega
      by_cases hl : bt s k < 128
      · have HR := Lib.hid (long_bad 3 128 159 k hk2 hlt HF.out HA.out (.inl hl))
        go_wp2
        go_ret
        exact ⟨by rw [HR.out]; rfl, rfl⟩
      · by_cases hh : 191 < bt s k
        · have HR := Lib.hid (long_bad 3 128 159 k hk2 hlt HF.out HA.out (.inr hh))
          go_wp2
          go_ret
          exact ⟨by rw [HR.out]; rfl, rfl⟩
        · go_wp2
          go_round
          case rel => exact ⟨k + 1, by omega, by omega, by go_num, fun j h1 h2 => by
            by_cases e : j = k
            · rw [e]; omega
            · exact HA.out j h1 (by omega)⟩
          case measure => simp [intOf]; omega
    · have HR := Lib.hid (long_good 3 128 159 (by omega) (by omega) HF.out (fun j h1 h2 => HA.out j h1 (by omega)))
      go_wp2
      go_ret
      exact ⟨by rw [HR.out]; rfl, rfl⟩

set_option maxRecDepth 100000 in
set_option maxHeartbeats 2000000 in
theorem long_F0 (s : ByteArray) (hs : s.size ≤ 4611686018427387904) (hn : 1 ≤ s.size) (h0 : bt s 0 = 240) (w : World) :
    Calls Tryz.prog 126 #[.string s] w fun e w' => e = .returned (.int .i64 (slowR s.size (bt s 1) (bt s 2) (bt s 3) 4 144 191 : Nat)) ∧ w = w' := by
  have hbt := get_bt s
  have g1 := bt_nonneg s 1
  have g1' := bt_le s 1
  by_cases hsz : s.size < 4
  · have HR := Lib.hid (show slowR s.size (bt s 1) (bt s 2) (bt s 3) 4 144 191 = 0 by unfold slowR; rw [if_pos hsz])
    go_enter Tryz.func126, Tryz.ntmps126
    go_wp2
    go_ret
    exact ⟨by rw [HR.out]; rfl, rfl⟩
  have hs1 : 1 < s.size := by omega
  by_cases hlo : bt s 1 < 144
  · have HR := Lib.hid (show slowR s.size (bt s 1) (bt s 2) (bt s 3) 4 144 191 = 0 by unfold slowR; rw [if_neg hsz, if_pos (.inl hlo)])
    go_enter Tryz.func126, Tryz.ntmps126
    go_wp2
    go_ret
    exact ⟨by rw [HR.out]; rfl, rfl⟩
  by_cases hhi : 191 < bt s 1
  · have HR := Lib.hid (show slowR s.size (bt s 1) (bt s 2) (bt s 3) 4 144 191 = 0 by unfold slowR; rw [if_neg hsz, if_pos (.inr hhi)])
    go_enter Tryz.func126, Tryz.ntmps126
    go_wp2
    go_ret
    exact ⟨by rw [HR.out]; rfl, rfl⟩
  have HF : Hid (¬ s.size < 4 ∧ ¬ (bt s 1 < 144 ∨ 191 < bt s 1)) := Lib.hid ⟨hsz, by omega⟩
  go_enter Tryz.func126, Tryz.ntmps126
  go_wp2
  go_loop [7] (fun i => ∃ k : Nat, 2 ≤ k ∧ k ≤ 4 ∧ i = .int .i64 k ∧ ∀ j, 2 ≤ j → j < k → 128 ≤ bt s j ∧ bt s j ≤ 191) (fun i => 4 - (intOf i).toNat)
  case atStart => exact ⟨2, by omega, by omega, rfl, fun j h1 h2 => by omega⟩
  case round =>
    obtain ⟨k, hk2, hk, rfl, hall⟩ := hrel
    have HA := Lib.hid hall
    clear hall
    by_cases hlt : k < 4
    · have hks : k < s.size := by omega
      by_cases hl : bt s k < 128
      · have HR := Lib.hid (long_bad 4 144 191 k hk2 hlt HF.out HA.out (.inl hl))
        go_wp2
        go_ret
        exact ⟨by rw [HR.out]; rfl, rfl⟩
      · by_cases hh : 191 < bt s k
        · have HR := Lib.hid (long_bad 4 144 191 k hk2 hlt HF.out HA.out (.inr hh))
          go_wp2
          go_ret
          exact ⟨by rw [HR.out]; rfl, rfl⟩
        · go_wp2
          go_round
          case rel => exact ⟨k + 1, by omega, by omega, by go_num, fun j h1 h2 => by
            by_cases e : j = k
            · rw [e]; omega
            · exact HA.out j h1 (by omega)⟩
          case measure => simp [intOf]; omega
    · have HR := Lib.hid (long_good 4 144 191 (by omega) (by omega) HF.out (fun j h1 h2 => HA.out j h1 (by omega)))
      go_wp2
      go_ret
      exact ⟨by rw [HR.out]; rfl, rfl⟩

set_option maxRecDepth 100000 in
set_option maxHeartbeats 2000000 in
theorem long_F1 (s : ByteArray) (hs : s.size ≤ 4611686018427387904) (hn : 1 ≤ s.size) (h0 : 241 ≤ bt s 0) (h0' : bt s 0 ≤ 243) (w : World) :
    Calls Tryz.prog 126 #[.string s] w fun e w' => e = .returned (.int .i64 (slowR s.size (bt s 1) (bt s 2) (bt s 3) 4 128 191 : Nat)) ∧ w = w' := by
  have hbt := get_bt s
  have g1 := bt_nonneg s 1
  have g1' := bt_le s 1
  have e224 : (bt s 0 == 224) = false := by rw [beq_eq_false_iff_ne]; omega
  have e237 : (bt s 0 == 237) = false := by rw [beq_eq_false_iff_ne]; omega
  have e240 : (bt s 0 == 240) = false := by rw [beq_eq_false_iff_ne]; omega
  have e244 : (bt s 0 == 244) = false := by rw [beq_eq_false_iff_ne]; omega
  by_cases hsz : s.size < 4
  · have HR := Lib.hid (show slowR s.size (bt s 1) (bt s 2) (bt s 3) 4 128 191 = 0 by unfold slowR; rw [if_pos hsz])
    go_enter Tryz.func126, Tryz.ntmps126
    go_wp2
    go_ret
    exact ⟨by rw [HR.out]; rfl, rfl⟩
  have hs1 : 1 < s.size := by omega
  by_cases hlo : bt s 1 < 128
  · have HR := Lib.hid (show slowR s.size (bt s 1) (bt s 2) (bt s 3) 4 128 191 = 0 by unfold slowR; rw [if_neg hsz, if_pos (.inl hlo)])
    go_enter Tryz.func126, Tryz.ntmps126
    go_wp2
    go_ret
    exact ⟨by rw [HR.out]; rfl, rfl⟩
  by_cases hhi : 191 < bt s 1
  · have HR := Lib.hid (show slowR s.size (bt s 1) (bt s 2) (bt s 3) 4 128 191 = 0 by unfold slowR; rw [if_neg hsz, if_pos (.inr hhi)])
    go_enter Tryz.func126, Tryz.ntmps126
    go_wp2
    go_ret
    exact ⟨by rw [HR.out]; rfl, rfl⟩
  have HF : Hid (¬ s.size < 4 ∧ ¬ (bt s 1 < 128 ∨ 191 < bt s 1)) := Lib.hid ⟨hsz, by omega⟩
  go_enter Tryz.func126, Tryz.ntmps126
  go_wp2
  go_loop [7] (fun i => ∃ k : Nat, 2 ≤ k ∧ k ≤ 4 ∧ i = .int .i64 k ∧ ∀ j, 2 ≤ j → j < k → 128 ≤ bt s j ∧ bt s j ≤ 191) (fun i => 4 - (intOf i).toNat)
  case atStart => exact ⟨2, by omega, by omega, rfl, fun j h1 h2 => by omega⟩
  case round =>
    obtain ⟨k, hk2, hk, rfl, hall⟩ := hrel
    have HA := Lib.hid hall
    clear hall
    by_cases hlt : k < 4
    · have hks : k < s.size := by omega
      by_cases hl : bt s k < 128
      · have HR := Lib.hid (long_bad 4 128 191 k hk2 hlt HF.out HA.out (.inl hl))
        go_wp2
        go_ret
        exact ⟨by rw [HR.out]; rfl, rfl⟩
      · by_cases hh : 191 < bt s k
        · have HR := Lib.hid (long_bad 4 128 191 k hk2 hlt HF.out HA.out (.inr hh))
          go_wp2
          go_ret
          exact ⟨by rw [HR.out]; rfl, rfl⟩
        · go_wp2
          go_round
          case rel => exact ⟨k + 1, by omega, by omega, by go_num, fun j h1 h2 => by
            by_cases e : j = k
            · rw [e]; omega
            · exact HA.out j h1 (by omega)⟩
          case measure => simp [intOf]; omega
    · have HR := Lib.hid (long_good 4 128 191 (by omega) (by omega) HF.out (fun j h1 h2 => HA.out j h1 (by omega)))
      go_wp2
      go_ret
      exact ⟨by rw [HR.out]; rfl, rfl⟩

set_option maxRecDepth 100000 in
set_option maxHeartbeats 2000000 in
theorem long_F4 (s : ByteArray) (hs : s.size ≤ 4611686018427387904) (hn : 1 ≤ s.size) (h0 : bt s 0 = 244) (w : World) :
    Calls Tryz.prog 126 #[.string s] w fun e w' => e = .returned (.int .i64 (slowR s.size (bt s 1) (bt s 2) (bt s 3) 4 128 143 : Nat)) ∧ w = w' := by
  have hbt := get_bt s
  have g1 := bt_nonneg s 1
  have g1' := bt_le s 1
  by_cases hsz : s.size < 4
  · have HR := Lib.hid (show slowR s.size (bt s 1) (bt s 2) (bt s 3) 4 128 143 = 0 by unfold slowR; rw [if_pos hsz])
    go_enter Tryz.func126, Tryz.ntmps126
    go_wp2
    go_ret
    exact ⟨by rw [HR.out]; rfl, rfl⟩
  have hs1 : 1 < s.size := by omega
  by_cases hlo : bt s 1 < 128
  · have HR := Lib.hid (show slowR s.size (bt s 1) (bt s 2) (bt s 3) 4 128 143 = 0 by unfold slowR; rw [if_neg hsz, if_pos (.inl hlo)])
    go_enter Tryz.func126, Tryz.ntmps126
    go_wp2
    go_ret
    exact ⟨by rw [HR.out]; rfl, rfl⟩
  by_cases hhi : 143 < bt s 1
  · have HR := Lib.hid (show slowR s.size (bt s 1) (bt s 2) (bt s 3) 4 128 143 = 0 by unfold slowR; rw [if_neg hsz, if_pos (.inr hhi)])
    go_enter Tryz.func126, Tryz.ntmps126
    go_wp2
    go_ret
    exact ⟨by rw [HR.out]; rfl, rfl⟩
  have HF : Hid (¬ s.size < 4 ∧ ¬ (bt s 1 < 128 ∨ 143 < bt s 1)) := Lib.hid ⟨hsz, by omega⟩
  go_enter Tryz.func126, Tryz.ntmps126
  go_wp2
  go_loop [7] (fun i => ∃ k : Nat, 2 ≤ k ∧ k ≤ 4 ∧ i = .int .i64 k ∧ ∀ j, 2 ≤ j → j < k → 128 ≤ bt s j ∧ bt s j ≤ 191) (fun i => 4 - (intOf i).toNat)
  case atStart => exact ⟨2, by omega, by omega, rfl, fun j h1 h2 => by omega⟩
  case round =>
    obtain ⟨k, hk2, hk, rfl, hall⟩ := hrel
    have HA := Lib.hid hall
    clear hall
    by_cases hlt : k < 4
    · have hks : k < s.size := by omega
      by_cases hl : bt s k < 128
      · have HR := Lib.hid (long_bad 4 128 143 k hk2 hlt HF.out HA.out (.inl hl))
        go_wp2
        go_ret
        exact ⟨by rw [HR.out]; rfl, rfl⟩
      · by_cases hh : 191 < bt s k
        · have HR := Lib.hid (long_bad 4 128 143 k hk2 hlt HF.out HA.out (.inr hh))
          go_wp2
          go_ret
          exact ⟨by rw [HR.out]; rfl, rfl⟩
        · go_wp2
          go_round
          case rel => exact ⟨k + 1, by omega, by omega, by go_num, fun j h1 h2 => by
            by_cases e : j = k
            · rw [e]; omega
            · exact HA.out j h1 (by omega)⟩
          case measure => simp [intOf]; omega
    · have HR := Lib.hid (long_good 4 128 143 (by omega) (by omega) HF.out (fun j h1 h2 => HA.out j h1 (by omega)))
      go_wp2
      go_ret
      exact ⟨by rw [HR.out]; rfl, rfl⟩

end Go.Proofs.YtbilkeadhflibaaGreatDoor.Word
