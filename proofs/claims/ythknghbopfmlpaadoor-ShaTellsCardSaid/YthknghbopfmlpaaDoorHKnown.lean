/- The sums of four texts, by the kernel; of no program. -/
import Derived.Test.YthknghbopfmlpaaDoorHMath
namespace Go.Proofs.YthknghbopfmlpaaDoor.Sha
set_option maxRecDepth 100000 in
theorem sum_none : sumL [] = [227, 176, 196, 66, 152, 252, 28, 20, 154, 251, 244, 200, 153, 111, 185, 36, 39, 174, 65, 228, 100, 155, 147, 76, 164, 149, 153, 27, 120, 82, 184, 85] := by kernel_rfl
set_option maxRecDepth 100000 in
theorem sum_abc : sumL [97, 98, 99] = [186, 120, 22, 191, 143, 1, 207, 234, 65, 65, 64, 222, 93, 174, 34, 35, 176, 3, 97, 163, 150, 23, 122, 156, 180, 16, 255, 97, 242, 0, 21, 173] := by kernel_rfl
set_option maxRecDepth 100000 in
theorem sum_55 : sumL (List.replicate 55 97) = [159, 67, 144, 248, 211, 12, 45, 217, 46, 201, 240, 149, 182, 94, 43, 154, 233, 176, 169, 37, 165, 37, 142, 36, 28, 159, 30, 145, 15, 115, 67, 24] := by kernel_rfl
set_option maxRecDepth 100000 in
theorem sum_64 : sumL (List.replicate 64 97) = [255, 224, 84, 254, 122, 224, 203, 109, 198, 92, 58, 249, 182, 29, 82, 9, 244, 57, 133, 29, 180, 61, 11, 165, 153, 115, 55, 223, 21, 70, 104, 235] := by kernel_rfl
end Go.Proofs.YthknghbopfmlpaaDoor.Sha
