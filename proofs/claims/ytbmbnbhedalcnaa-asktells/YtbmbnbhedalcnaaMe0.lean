/- Messages as cells. -/
import Derived.Test.YtbmbnbhedalcnaaMd
namespace Go.Proofs.Ytbmbnbhedalcnaa
open Go.RowKit
abbrev msK : List LK := [.kInt .i64, .kInt .i64, .kInt .i64, .kInt .i64, .kInt .i64, .kStr]
def litR (L : List (List Value)) : Nat → List Value := fun j => (nthL L j).getD []
def mgC (k o n t w : Int) (s : ByteArray) : List Value := [.int .i64 k, .int .i64 o, .int .i64 n, .int .i64 t, .int .i64 w, .string s]
end Go.Proofs.Ytbmbnbhedalcnaa
