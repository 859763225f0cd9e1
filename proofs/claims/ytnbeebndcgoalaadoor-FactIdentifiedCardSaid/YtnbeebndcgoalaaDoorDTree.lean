/- Plain mathematics of trees of digests and of chains: lists of bytes and natural numbers alone; the digest is any function that returns 32 bytes. -/
import Derived.Test.YtnbeebndcgoalaaDoorWRefD
namespace Go.Proofs.YtnbeebndcgoalaaDoor
abbrev Bs := List UInt8

def leftA : Nat → Nat → Nat → Nat
  | 0, k, _ => k
  | f + 1, k, n => if k < n - k then leftA f (2 * k) n else k
def left (n : Nat) : Nat := leftA n 1 n

end Go.Proofs.YtnbeebndcgoalaaDoor
