/-
  What the landed class answers, as one premise; and the document's example run of layer 3.
-/
import Derived.Test.YtiechakfjhifaaaDoorClassFit
namespace Go.Proofs.YtiechakfjhifaaaDoor
open Go.RowKit
set_option linter.unusedVariables false
set_option linter.unusedSimpArgs false

/-- In a world that is Ok (its package-level tables hold what they hold) class answers as the document says, and makes at most new blocks. -/
structure ClassDoes (Ok : World → Prop) : Prop where
  more : ∀ W W', Ok W → More W W' → Ok W'
  of : ∀ n W, -9223372036854775808 ≤ n → n ≤ 9223372036854775807 → Ok W → Calls Tryd.prog 9 #[.int .i64 n] W (Gives W (.int .i64 (clsV n)))
  size : ∀ c W, -9223372036854775808 ≤ c → c ≤ 9223372036854775807 → Ok W → Calls Tryd.prog 13 #[.int .i64 c] W (Gives W (.int .i64 (sizeV c)))
  slots : ∀ c W, -9223372036854775808 ≤ c → c ≤ 9223372036854775807 → Ok W → Calls Tryd.prog 15 #[.int .i64 c] W (Gives W (.int .i64 (slotsC c)))
  pages : ∀ n W, -9223372036854775808 ≤ n → n ≤ 9223372036854775807 → Ok W → Calls Tryd.prog 11 #[.int .i64 n] W (Gives W (.int .i64 (pgsV n)))
  fit : ∀ n a W, -9223372036854775808 ≤ n → n ≤ 9223372036854775807 → -9223372036854775808 ≤ a → a ≤ 9223372036854775807 → Ok W → Calls Tryd.prog 18 #[.int .i64 n, .int .i64 a] W (Gives W (fitT n a))
  rounded : ∀ n a W, -9223372036854775808 ≤ n → n ≤ 1048576 → -9223372036854775808 ≤ a → a ≤ 9223372036854775807 → Ok W → Calls Tryd.prog 20 #[.int .i64 n, .int .i64 a] W (Gives W (.tuple #[.int .i64 (roundV n a), .int .i64 (fitE n a)]))

theorem lives_any {Ok : World → Prop} (D : ClassDoes Ok) (w : World) (hk : Ok w) : Calls Tryd.prog 17 #[] w (Gives w (.bool true)) := by
  have HK0 : Hid (Ok w) := hk
  have HM0 : Hid (More w w) := More.refl w
  go_enter Tryd.func17, Tryd.ntmps17
  go_wp2_with fail
  refine (D.fit 3 8 _ (by omega) (by omega) (by omega) (by omega) HK0.out).mono ?_
  rw [show fitT 3 8 = .tuple #[.int .i64 3, .int .i64 0, .int .i64 0, .int .i64 0] from rfl]
  rintro e w1 ⟨rfl, h⟩
  have HK1 := Lib.hid (D.more _ _ HK0.out h)
  have HM1 := Lib.hid (HM0.out.trans h)
  clear h HK0 HM0
  go_wp2_with fail
  refine (D.fit 40 64 _ (by omega) (by omega) (by omega) (by omega) HK1.out).mono ?_
  rw [show fitT 40 64 = .tuple #[.int .i64 (-1), .int .i64 2, .int .i64 2, .int .i64 0] from rfl]
  rintro e w2 ⟨rfl, h⟩
  have HK2 := Lib.hid (D.more _ _ HK1.out h)
  have HM2 := Lib.hid (HM1.out.trans h)
  clear h HK1 HM1
  go_wp2_with fail
  refine (D.of 5 _ (by omega) (by omega) HK2.out).mono ?_
  rw [show clsV 5 = 3 from rfl]
  rintro e w3 ⟨rfl, h⟩
  have HK3 := Lib.hid (D.more _ _ HK2.out h)
  have HM3 := Lib.hid (HM2.out.trans h)
  clear h HK2 HM2
  go_wp2_with fail
  refine (D.size 3 _ (by omega) (by omega) HK3.out).mono ?_
  rw [show sizeV 3 = 8 from rfl]
  rintro e w4 ⟨rfl, h⟩
  have HK4 := Lib.hid (D.more _ _ HK3.out h)
  have HM4 := Lib.hid (HM3.out.trans h)
  clear h HK3 HM3
  go_wp2_with fail
  refine (D.slots 3 _ (by omega) (by omega) HK4.out).mono ?_
  rw [show slotsC 3 = 4 from rfl]
  rintro e w5 ⟨rfl, h⟩
  have HK5 := Lib.hid (D.more _ _ HK4.out h)
  have HM5 := Lib.hid (HM4.out.trans h)
  clear h HK4 HM4
  go_wp2_with fail
  go_ret
  exact ⟨rfl, HM5.out⟩

end Go.Proofs.YtiechakfjhifaaaDoor
