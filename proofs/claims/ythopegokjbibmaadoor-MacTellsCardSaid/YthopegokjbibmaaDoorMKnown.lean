/- What is signed in the chapter's examples, by the kernel; of no program. -/
import Derived.Test.YthopegokjbibmaaDoorMMath
namespace Go.Proofs.YthopegokjbibmaaDoor.Mac
open Go.Proofs.YthopegokjbibmaaDoor.Sha
set_option maxRecDepth 100000 in
theorem sign_jefe : signL [74, 101, 102, 101] [119, 104, 97, 116, 32, 100, 111, 32, 121, 97, 32, 119, 97, 110, 116, 32, 102, 111, 114, 32, 110, 111, 116, 104, 105, 110, 103, 63] = [91, 220, 193, 70, 191, 96, 117, 78, 106, 4, 36, 38, 8, 149, 117, 199, 90, 0, 63, 8, 157, 39, 57, 131, 157, 236, 88, 185, 100, 236, 56, 67] := by kernel_rfl
set_option maxRecDepth 100000 in
theorem sign_key : signL [107, 101, 121] [97] = [120, 12, 61, 180, 206, 61, 229, 185, 229, 88, 22, 251, 169, 143, 89, 6, 49, 217, 108, 7, 82, 113, 178, 105, 118, 35, 141, 95, 68, 68, 33, 155] := by kernel_rfl
set_option maxRecDepth 100000 in
theorem sign_key2 : signL [120, 12, 61, 180, 206, 61, 229, 185, 229, 88, 22, 251, 169, 143, 89, 6, 49, 217, 108, 7, 82, 113, 178, 105, 118, 35, 141, 95, 68, 68, 33, 155] [1, 2] = [211, 212, 146, 197, 7, 159, 194, 24, 41, 101, 11, 3, 217, 55, 120, 14, 139, 166, 211, 41, 55, 103, 93, 49, 75, 182, 138, 150, 13, 220, 59, 95] := by kernel_rfl
set_option maxRecDepth 100000 in
theorem sign_kez : signL [107, 101, 122] [97] = [45, 80, 21, 242, 202, 114, 71, 205, 9, 151, 121, 172, 124, 93, 172, 135, 143, 98, 134, 14, 240, 254, 182, 206, 29, 136, 8, 68, 248, 238, 60, 136] := by kernel_rfl
set_option maxRecDepth 100000 in
theorem sign_kez2 : signL [45, 80, 21, 242, 202, 114, 71, 205, 9, 151, 121, 172, 124, 93, 172, 135, 143, 98, 134, 14, 240, 254, 182, 206, 29, 136, 8, 68, 248, 238, 60, 136] [1, 2] = [18, 157, 57, 9, 145, 113, 153, 214, 61, 200, 10, 255, 223, 27, 189, 210, 175, 216, 225, 130, 50, 75, 189, 38, 158, 216, 24, 53, 219, 11, 245, 129] := by kernel_rfl
theorem put_two : putC (1, 2) = [1, 2] := by decide +kernel
/-- By another key it is another one. -/
theorem kez_other : chainL (signL [107, 101, 122] [97]) [(1, 2)] ≠ signL (signL [107, 101, 121] [97]) (putC (1, 2)) := by
  show signL (signL [107, 101, 122] [97]) (putC (1, 2)) ≠ _
  rw [put_two, sign_kez, sign_kez2, sign_key, sign_key2]
  decide
end Go.Proofs.YthopegokjbibmaaDoor.Mac
