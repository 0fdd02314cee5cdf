/- The calls of package codec, as the statements use them: f_putuint, f_putint, f_puttext, f_sum, f_frame, f_uint, f_int, f_text, f_unframe. -/
import Derived.Test.YtbhffjeoakalbaaGreatDoorDrec
import Derived.Test.YtbhffjeoakalbaaGreatDoorCpre
namespace Go.Proofs.YtbhffjeoakalbaaGreatDoor
end Go.Proofs.YtbhffjeoakalbaaGreatDoor
