/-
  What a map holds when steps were put into it, one behind the other, and from the end on.
-/
import Derived.Test.YtcaddbgoeoclnaaSortedD
import Derived.Test.YtcaddbgoeoclnaaActs
namespace Go.Proofs.Ytcaddbgoeoclnaa
set_option linter.unusedVariables false
set_option linter.unusedSimpArgs false

def putAll (f : Nat → Act3) : Nat → List KV
  | 0 => []
  | n + 1 => putD (putAll f n) (f n).2.1 (f n).2.2
theorem putAll_asc (f : Nat → Act3) : ∀ n, Asc (putAll f n)
  | 0 => asc_nil
  | n + 1 => asc_putD (putAll_asc f n) _ _
theorem putAll_len (f : Nat → Act3) : ∀ n, (putAll f n).length ≤ n
  | 0 => Nat.le_refl _
  | n + 1 => by have := putAll_len f n; have := len_putD_le (putAll_asc f n) (f n).2.1 (f n).2.2; rw [putAll]; omega
theorem putAll_has (f : Nat → Act3) : ∀ n i, i < n → (look (putAll f n) (f i).2.1).isSome = true
  | 0, i, h => absurd h (Nat.not_lt_zero _)
  | n + 1, i, h => by
    rw [putAll, look_putD (putAll_asc f n)]
    split
    · rfl
    · by_cases hi : i = n
      · subst hi; rename_i q; exact absurd rfl q
      · exact putAll_has f n i (by omega)
/-- The last thing that a key is given among the n steps from lo on. -/
def lastv (f : Nat → Act3) (lo : Nat) : Nat → Int → Option ByteArray
  | 0, _ => none
  | n + 1, k => if k = (f (lo + n)).2.1 then some (f (lo + n)).2.2 else lastv f lo n k
theorem look_putAll (f : Nat → Act3) (k : Int) : ∀ n, look (putAll f n) k = lastv f 0 n k
  | 0 => rfl
  | n + 1 => by rw [putAll, look_putD (putAll_asc f n), lastv, look_putAll f k n, Nat.zero_add]
theorem lastv_front (f : Nat → Act3) (lo : Nat) (k : Int) : ∀ n, lastv f lo (n + 1) k = (lastv f (lo + 1) n k).or (if k = (f lo).2.1 then some (f lo).2.2 else none)
  | 0 => by simp [lastv]
  | n + 1 => by
    rw [lastv, lastv_front f lo k n, lastv, show lo + 1 + n = lo + (n + 1) by omega]
    split <;> simp
/-- From the end on, each key once. -/
def putBack (f : Nat → Act3) (len : Nat) : Nat → List KV
  | 0 => []
  | n + 1 => if (look (putBack f len n) (f (len - 1 - n)).2.1).isSome then putBack f len n else putD (putBack f len n) (f (len - 1 - n)).2.1 (f (len - 1 - n)).2.2
theorem putBack_asc (f : Nat → Act3) (len : Nat) : ∀ n, Asc (putBack f len n)
  | 0 => asc_nil
  | n + 1 => by
    rw [putBack]
    split
    · exact putBack_asc f len n
    · exact asc_putD (putBack_asc f len n) _ _
theorem putBack_len (f : Nat → Act3) (len : Nat) : ∀ n, (putBack f len n).length ≤ n
  | 0 => Nat.le_refl _
  | n + 1 => by
    have h1 := putBack_len f len n
    have h2 := len_putD_le (putBack_asc f len n) (f (len - 1 - n)).2.1 (f (len - 1 - n)).2.2
    rw [putBack]
    split <;> omega
theorem look_putBack (f : Nat → Act3) (len : Nat) (k : Int) : ∀ n, n ≤ len → look (putBack f len n) k = lastv f (len - n) n k
  | 0, _ => rfl
  | n + 1, h => by
    have ih := look_putBack f len k n (by omega)
    have e := lastv_front f (len - (n + 1)) k n
    rw [show len - (n + 1) + 1 = len - n by omega, show len - (n + 1) = len - 1 - n by omega, ← ih] at e
    rw [show len - (n + 1) = len - 1 - n by omega, e, putBack]
    by_cases q : (look (putBack f len n) (f (len - 1 - n)).2.1).isSome = true
    · rw [if_pos q]
      by_cases hk : k = (f (len - 1 - n)).2.1
      · rw [← hk] at q
        obtain ⟨u, hu⟩ := Option.isSome_iff_exists.1 q
        rw [hu]; simp
      · rw [if_neg hk]; simp
    · rw [if_neg q, look_putD (putBack_asc f len n)]
      by_cases hk : k = (f (len - 1 - n)).2.1
      · rw [← hk] at q ⊢
        rw [if_pos rfl, if_pos rfl]
        have : look (putBack f len n) k = none := by simpa using q
        rw [this]; rfl
      · rw [if_neg hk, if_neg hk]; simp
theorem same_back (f : Nat → Act3) (len : Nat) : putAll f len = putBack f len len :=
  asc_ext (putAll_asc f len) (putBack_asc f len len) fun k => by rw [look_putAll, look_putBack f len k len (Nat.le_refl _), Nat.sub_self]
end Go.Proofs.Ytcaddbgoeoclnaa
