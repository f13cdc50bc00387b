import Derived.Test.YtlcamplkgcokjaaSxK
import Derived.Test.YtlcamplkgcokjaaRows
namespace Go.Proofs.Ytlcamplkgcokjaa.UuMv
open Go.Sx
def i64 : IntKind × (Int × Int) := (.i64, ((-9223372036854775808), 9223372036854775807))
def u64 : IntKind × (Int × Int) := (.u64, (0, 18446744073709551615))
def ivs : List (IntKind × (Int × Int)) := [u64, u64, u64, u64, u64]
noncomputable def fillI : List (IntKind × (Int × Int)) → Nat → Iv → Iv
  | [], _, t => t
  | x :: r, i, t => fillI r (i + 1) (t.set i (some x))
noncomputable def ivP : Iv := fillI ivs 0 .nil
def argsP : List AV := [.agg [.opq 0, .opq 1, .opq 2, .opq 3], .opq 4]

end Go.Proofs.Ytlcamplkgcokjaa.UuMv
