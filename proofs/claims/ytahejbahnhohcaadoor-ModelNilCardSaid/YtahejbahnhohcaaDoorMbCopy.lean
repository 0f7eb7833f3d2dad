/-
  The landed package sorted: Copy.
-/
import Derived.Test.YtahejbahnhohcaaDoorMbPut
import Derived.Deep.RegionHeld3
namespace Go.Proofs.YtahejbahnhohcaaDoor
open Go.RowKit Go.Sort
set_option linter.unusedVariables false
set_option linter.unusedSimpArgs false

/-- A row that a call has made, from w on. -/
structure NewRow (w W W' : World) (e : TypeId) (xs : List Value) (a : Option Addr) (cap : Nat) : Prop where
  row : RowAt W' e xs a cap
  step : More W W'
  all : More w W'
  new : ∀ k, owned a k → W.heap.size ≤ k
theorem b_clone_keys {w : World} {D : List BKV} (hs : D.length ≤ 100000) {a : Option Addr} {cap : Nat} (h : RowAt w 3 (b_keyCells D) a cap) (W : World) (hW : More w W) :
    Calls Tryd.prog 32 #[.slice a D.length cap] W fun e W' => ∃ a' cap', e = .returned (.slice a' D.length cap') ∧ NewRow w W W' 3 (b_keyCells D) a' cap' := by
  have := clone_int (b_keysOf D) (by rw [b_keysOf_len]; omega) a cap W (h.keep hW (fun _ _ q => q))
  rw [b_keysOf_len] at this
  refine this.mono ?_
  rintro e W' ⟨a', cap', rfl, hr, hm, hn⟩
  exact ⟨a', cap', rfl, hr, hm, hW.trans hm, hn⟩
/-- .. of pairs. -/
structure BNewRow (w W W' : World) (e : TypeId) (n : Nat) (xs : List Value) (a : Option Addr) (cap : Nat) : Prop where
  row : RowB W' e n xs a cap
  step : More W W'
  all : More w W'
  new : ∀ k, owned a k → W.heap.size ≤ k
theorem b_clone_vals {w : World} {D : List BKV} (hs : D.length ≤ 100000) {a : Option Addr} {cap : Nat} (h : RowB w 65 D.length (b_valCells D) a cap) (W : World) (hW : More w W) :
    Calls Tryd.prog 47 #[.slice a D.length cap] W fun e W' => ∃ a' cap', e = .returned (.slice a' D.length cap') ∧ BNewRow w W W' 65 D.length (b_valCells D) a' cap' := by
  refine (clone_mb D.length (b_valCells D) (by omega) a cap W (h.keep hW (fun _ _ q => q)) (b_valCells_one D)).mono ?_
  rintro e W' ⟨a', cap', rfl, hr, hm, hn⟩
  exact ⟨a', cap', rfl, hr, hm, hW.trans hm, hn⟩
theorem b_copy_fin {w Wk Wk' Wv Wv' W : World} {D : List BKV} (ha : BAsc D) (hs : D.length ≤ 100000) {ka va : Option Addr} {kc vc : Nat} (hk : NewRow w Wk Wk' 3 (b_keyCells D) ka kc) (hv : BNewRow w Wv Wv' 65 D.length (b_valCells D) va vc)
    (mk : More Wk' W) (mv : More Wv' W) (hw1 : w.heap.size ≤ Wk.heap.size) (hw2 : w.heap.size ≤ Wv.heap.size) (hd : Wk'.heap.size ≤ Wv.heap.size ∨ Wv'.heap.size ≤ Wk.heap.size) :
    BGaveMap w D (.returned (.pointer (some ⟨W.heap.size, 0, none⟩))) (W.alloc (.cells #[.slice ka D.length kc, .slice va D.length vc] 84)) := by
  have m := (More.refl W).alloc (.cells #[.slice ka D.length kc, .slice va D.length vc] 84)
  have hk' := hk.row.keep mk (fun _ _ q => q)
  have hv' := hv.row.keep mv (fun _ _ q => q)
  have lk := hk.row.lt
  have lv := hv.row.lt
  have sk := mk.size
  have sv := mv.size
  refine ⟨fun k => w.heap.size ≤ k ∧ k < W.heap.size + 1, W.heap.size, rfl, ⟨ha, hs, fun k q => by simp; omega, ka, kc, va, vc, heap_new W _, hk'.keep m (fun _ _ q => q), hv'.keep m (fun _ _ q => q), ⟨by have := hk.all.size; omega, by omega⟩, ?_, ?_⟩, (hk.all.trans mk).trans m, fun k q => q.1⟩
  · intro k q
    have := hk.new k q; have := lk k q
    exact ⟨⟨by omega, by omega⟩, by omega⟩
  · intro k q
    have := hv.new k q; have := lv k q
    refine ⟨⟨by omega, by omega⟩, by omega, fun r => ?_⟩
    have := hk.new k r; have := lk k r
    omega

set_option maxRecDepth 100000 in
set_option maxHeartbeats 2000000 in
theorem b_copy_ok (F : Nat → Prop) (p : Nat) (D : List BKV) (w : World) (h : BMapAt w F p D) :
    Calls Tryd.prog 31 #[.pointer (some ⟨p, 0, none⟩)] w (BGaveMap w D) := by
  obtain ⟨ka, kc, va, vc, hp, hk, hv, _⟩ := h.ex
  obtain ⟨c0, c1, f0, hlt⟩ := cell_of hp
  have CK := Lib.hid (b_clone_keys h.small hk)
  have CV := Lib.hid (b_clone_vals h.small hv)
  have HA := Lib.hid h.asc
  have HS := Lib.hid h.small
  have C0 := Lib.hid c0
  have C1 := Lib.hid c1
  clear h hp hk hv
  go_enter Tryd.func31, Tryd.ntmps31
  go_wp2_with fail
  go_region_held3 (fun w' => w'.cell? ⟨p, 0, none⟩ = some (.slice ka D.length kc) ∧ w'.cell? ⟨p, 1, none⟩ = some (.slice va D.length vc))
    (first | exact ⟨M40.out.cell C0.out, M40.out.cell C1.out⟩ | exact ⟨M41.out.cell C0.out, M41.out.cell C1.out⟩ | go_keep)
    (first
      | (go_at_call 32; refine (CK.out _ (by first | exact M41.out | exact M41.out.drew | exact (More.refl w).drew | exact More.refl w)).mono ?_; rintro e w40 ⟨a40, c40, rfl, h40⟩; have H40 := Lib.hid h40; have M40 := Lib.hid h40.all; clear h40)
      | (go_at_call 47; refine (CV.out _ (by first | exact M40.out | exact M40.out.drew | exact (More.refl w).drew | exact More.refl w)).mono ?_; rintro e w41 ⟨a41, c41, rfl, h41⟩; have H41 := Lib.hid h41; have M41 := Lib.hid h41.all; clear h41))
  all_goals go_wp2_with fail
  all_goals go_ret
  all_goals first
    | exact b_copy_fin HA.out HS.out H40.out H41.out H41.out.step (More.refl _) (by simp) M40.out.size (.inl (Nat.le_refl _))
    | exact b_copy_fin HA.out HS.out H40.out H41.out (More.refl _) H40.out.step M41.out.size (by simp) (.inr (Nat.le_refl _))
end Go.Proofs.YtahejbahnhohcaaDoor
