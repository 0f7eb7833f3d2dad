/-
  The walks of layer 3's laws by the document's answers.
-/
import Derived.Test.YtiechakfjhifaaaDoorClassDoes
namespace Go.Proofs.YtiechakfjhifaaaDoor
open Go.RowKit
set_option linter.unusedVariables false
set_option linter.unusedSimpArgs false

variable {Ok : World → Prop} (D : ClassDoes Ok) (w : World)
include D

theorem sizes_core (n c : Int) (hk : Ok w) (n0 : -9223372036854775808 ≤ n) (n1 : n ≤ 9223372036854775807) (c0 : -9223372036854775808 ≤ c) (c1 : c ≤ 9223372036854775807) : Calls Tryd.prog 3 #[.int .i64 n, .int .i64 c] w (Gives w (.bool true)) := by
  have HK0 : Hid (Ok w) := hk
  have HM0 : Hid (More w w) := More.refl w
  go_enter Tryd.func3, Tryd.ntmps3
  go_wp2_with fail
  refine (D.of n _ n0 n1 HK0.out).mono ?_
  rintro e w1 ⟨rfl, h⟩
  have HK1 := Lib.hid (D.more _ _ HK0.out h)
  have HM1 := Lib.hid (HM0.out.trans h)
  clear h HK0 HM0
  go_wp2_with fail
  refine (r3of _ n).mono ?_
  rintro e w' ⟨rfl, rfl⟩
  go_wp2_with fail
  refine (D.pages n _ n0 n1 HK1.out).mono ?_
  rintro e w2 ⟨rfl, h⟩
  have HK2 := Lib.hid (D.more _ _ HK1.out h)
  have HM2 := Lib.hid (HM1.out.trans h)
  clear h HK1 HM1
  go_wp2_with fail
  refine (r3pages _ n n1).mono ?_
  rintro e w' ⟨rfl, rfl⟩
  go_wp2_with fail
  refine (D.size c _ c0 c1 HK2.out).mono ?_
  rintro e w3 ⟨rfl, h⟩
  have HK3 := Lib.hid (D.more _ _ HK2.out h)
  have HM3 := Lib.hid (HM2.out.trans h)
  clear h HK2 HM2
  go_wp2_with fail
  refine (r3size _ c).mono ?_
  rintro e w' ⟨rfl, rfl⟩
  go_wp2_with fail
  refine (D.slots c _ c0 c1 HK3.out).mono ?_
  rintro e w4 ⟨rfl, h⟩
  have HK4 := Lib.hid (D.more _ _ HK3.out h)
  have HM4 := Lib.hid (HM3.out.trans h)
  clear h HK3 HM3
  go_wp2_with fail
  refine (r3slots _ c).mono ?_
  rintro e w' ⟨rfl, rfl⟩
  go_wp2_with fail
  refine (lives_any D _ HK4.out).mono ?_
  rintro e w5 ⟨rfl, h⟩
  have HK5 := Lib.hid (D.more _ _ HK4.out h)
  have HM5 := Lib.hid (HM4.out.trans h)
  clear h HK4 HM4
  go_wp2_with fail
  go_ret
  exact ⟨rfl, HM5.out⟩

theorem fits_core (n a : Int) (hk : Ok w) (n0 : -9223372036854775808 ≤ n) (n1 : n ≤ 9223372036854775807) (a0 : -9223372036854775808 ≤ a) (a1 : a ≤ 9223372036854775807) : Calls Tryd.prog 4 #[.int .i64 n, .int .i64 a] w (Gives w (.bool true)) := by
  have HK0 : Hid (Ok w) := hk
  have HM0 : Hid (More w w) := More.refl w
  have HR : Hid (∀ W, Calls Tryd.prog 19 #[.int .i64 n, .int .i64 a] W fun e w' => e = .returned (.tuple #[.int .i64 (fitC n a), .int .i64 (fitP n a), .int .i64 (fitS n a), .int .i64 (fitE n a)]) ∧ w' = W) := fun W => r3fit W n a n1
  go_enter Tryd.func4, Tryd.ntmps4
  go_wp2_with fail
  refine (D.fit n a _ n0 n1 a0 a1 HK0.out).mono ?_
  rw [fitT]
  rintro e w1 ⟨rfl, h⟩
  have HK1 := Lib.hid (D.more _ _ HK0.out h)
  have HM1 := Lib.hid (HM0.out.trans h)
  clear h HK0 HM0
  go_wp2_with fail
  refine (HR.out _).mono ?_
  rintro e w' ⟨rfl, rfl⟩
  go_wp2_with fail
  refine (lives_any D _ HK1.out).mono ?_
  rintro e w2 ⟨rfl, h⟩
  have HK2 := Lib.hid (D.more _ _ HK1.out h)
  have HM2 := Lib.hid (HM1.out.trans h)
  clear h HK1 HM1
  go_wp2_with fail
  go_ret
  exact ⟨rfl, HM2.out⟩

end Go.Proofs.YtiechakfjhifaaaDoor
