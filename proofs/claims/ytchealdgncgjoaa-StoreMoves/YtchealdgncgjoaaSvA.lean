import Derived.Test.YtchealdgncgjoaaKpA
namespace Go.Proofs.Ytchealdgncgjoaa.St
/-- a value that is a list of bytes: where it lies, its length, its room -/
structure Sv where
  a : Option Addr
  n : Nat
  c : Nat
deriving Inhabited
end Go.Proofs.Ytchealdgncgjoaa.St
