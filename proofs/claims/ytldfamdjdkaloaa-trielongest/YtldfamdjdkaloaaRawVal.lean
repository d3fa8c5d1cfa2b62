/- A raw thing as a value. -/
import Derived.Test.YtldfamdjdkaloaaRows
namespace Go.Proofs.Ytldfamdjdkaloaa

def rawV (k a b : Int) (s : ByteArray) : Value := .agg #[.int .i64 k, .int .i64 a, .int .i64 b, .string s]
end Go.Proofs.Ytldfamdjdkaloaa
