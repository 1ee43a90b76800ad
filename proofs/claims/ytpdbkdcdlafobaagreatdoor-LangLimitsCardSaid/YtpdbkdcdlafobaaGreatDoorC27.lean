/- The texts of LangLimits: rows of steps within blocks. Contracts of the program's functions, with no condition beyond what each theorem states. -/
import Derived.Test.YtpdbkdcdlafobaaGreatDoorC01
section
namespace Go.Proofs.YtpdbkdcdlafobaaGreatDoor.L
def rep (x : Bytes) : Nat → Bytes | 0 => [] | n + 1 => rep x n ++ x
def skips : Nat → Bytes | 0 => [] | n + 1 => skips n ++ ((if n = 0 then [] else [59]) ++ [115, 107, 105, 112])
/-- So many steps in so many blocks. -/
def rowT (steps deep : Nat) : Bytes := (([124, 45, 32, 99, 111, 109, 32, 58, 32] ++ rep [119, 104, 105, 108, 101, 32, 49, 32, 123, 32] deep) ++ skips steps) ++ rep [32, 125] deep
theorem rep_len (x : Bytes) : ∀ n, (rep x n).length = n * x.length | 0 => by simp [rep] | n + 1 => by rw [rep, List.length_append, rep_len x n, Nat.succ_mul]
theorem skips_len : ∀ n, (skips n).length ≤ n * 5 | 0 => by simp [skips] | n + 1 => by have h := skips_len n; have h1 : (if n = 0 then [] else [59] : Bytes).length ≤ 1 := (by split <;> simp); simp only [skips, List.length_append, List.length_cons, List.length_nil] at *; omega
def pad (n : Nat) : Bytes := [124, 45, 32, 99, 111, 109, 32, 58, 32, 115, 107, 105, 112] ++ rep [32] n
end Go.Proofs.YtpdbkdcdlafobaaGreatDoor.L
end
