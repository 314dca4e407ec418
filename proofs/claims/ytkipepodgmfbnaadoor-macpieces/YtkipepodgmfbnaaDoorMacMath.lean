/-
  The MAC, as a function on lists of bytes.
-/
import Derived.Test.YtkipepodgmfbnaaDoorShaFast
namespace Go.Proofs.YtkipepodgmfbnaaDoor.Sha

/-- A key's block. -/
def keyOf (key : List Nat) : List Nat := if 64 < key.length then digest key else key
def blockL (key : List Nat) : List Nat := keyOf key ++ List.replicate (64 - (keyOf key).length) 0
def xorL (x : Nat) (l : List Nat) : List Nat := l.map fun z => z ^^^ x
/-- The MAC. -/
def hmac (key msg : List Nat) : List Nat := digest (xorL 92 (blockL key) ++ digest (xorL 54 (blockL key) ++ msg))

theorem jefe_in : digest (xorL 54 (blockL [74, 101, 102, 101]) ++ [119, 104, 97, 116, 32, 100, 111, 32, 121, 97, 32, 119, 97, 110, 116, 32, 102, 111, 114, 32, 110, 111, 116, 104, 105, 110, 103, 63]) = [162, 228, 133, 134, 61, 39, 249, 216, 100, 172, 141, 128, 36, 50, 161, 237, 71, 125, 140, 76, 111, 52, 157, 22, 212, 231, 233, 23, 198, 41, 202, 215] := by
  rw [digest_quick]
  decide +kernel
theorem jefe : hmac [74, 101, 102, 101] [119, 104, 97, 116, 32, 100, 111, 32, 121, 97, 32, 119, 97, 110, 116, 32, 102, 111, 114, 32, 110, 111, 116, 104, 105, 110, 103, 63] = [91, 220, 193, 70, 191, 96, 117, 78, 106, 4, 36, 38, 8, 149, 117, 199, 90, 0, 63, 8, 157, 39, 57, 131, 157, 236, 88, 185, 100, 236, 56, 67] := by
  rw [hmac, jefe_in, digest_quick]
  decide +kernel

theorem digest_len (l : List Nat) : (digest l).length = 32 := rfl
theorem keyOf_length (key : List Nat) : (keyOf key).length ≤ 64 := by
  unfold keyOf
  split
  · rw [digest_len]; omega
  · omega
theorem blockL_length (key : List Nat) : (blockL key).length = 64 := by
  have := keyOf_length key
  rw [blockL, List.length_append, List.length_replicate]
  omega
theorem xorL_length (x : Nat) (l : List Nat) : (xorL x l).length = l.length := by simp [xorL]
theorem hmac_length (key msg : List Nat) : (hmac key msg).length = 32 := rfl
theorem block_short (key : List Nat) (h : key.length < 64) : blockL (key ++ [0]) = blockL key := by
  have e1 : keyOf key = key := by rw [keyOf, if_neg (by omega)]
  have e2 : keyOf (key ++ [0]) = key ++ [0] := by rw [keyOf, if_neg (by rw [List.length_append, List.length_singleton]; omega)]
  rw [blockL, blockL, e1, e2, List.length_append, List.length_singleton, List.append_assoc, show 64 - key.length = (64 - (key.length + 1)) + 1 from by omega, List.replicate_succ]
  rfl
theorem block_long (key : List Nat) (h : 64 < key.length) : blockL (digest key) = blockL key := by
  have e1 : keyOf key = digest key := by rw [keyOf, if_pos h]
  have e2 : keyOf (digest key) = digest key := by rw [keyOf, if_neg (by rw [digest_len]; omega)]
  rw [blockL, blockL, e1, e2]
end Go.Proofs.YtkipepodgmfbnaaDoor.Sha
