/-
  Begin, at whatever configuration it is given; blocks that are made at a function's beginning.
-/
import Derived.Test.YtogfikemodaepaaGreatChunkLives
import Derived.Test.YtogfikemodaepaaGreatChunkEnd
import Derived.Test.YtogfikemodaepaaGreatWay
import Derived.Test.YtogfikemodaepaaGreatViewWords
namespace Go.Proofs.YtogfikemodaepaaGreat
open Go.RowKit Go.Sort Go.Maps Go.Shelf
set_option linter.unusedVariables false
set_option linter.unusedSimpArgs false

/-- What Begin does, at whatever configuration it is given. -/
theorem begin_at (y0 y1 y2 y3 y4 y5 y6 y7 y8 y9 y10 : Int) (f0 : (Lit.int .i64 y0).wf = true) (f1 : (Lit.int .i64 y1).wf = true) (f2 : (Lit.int .i64 y2).wf = true) (f3 : (Lit.int .i64 y3).wf = true) (f4 : (Lit.int .i64 y4).wf = true) (f5 : (Lit.int .i64 y5).wf = true) (f6 : (Lit.int .i64 y6).wf = true) (f7 : (Lit.int .i64 y7).wf = true) (f8 : (Lit.int .i64 y8).wf = true) (f9 : (Lit.int .i64 y9).wf = true) (f10 : (Lit.int .i64 y10).wf = true) : ∃ d : Cfg, d.Small ∧ Hid (∀ W, Calls Tryz.prog 5 #[.agg #[.int .i64 y0, .int .i64 y1, .int .i64 y2, .int .i64 y3, .int .i64 y4, .int .i64 y5, .int .i64 y6, .int .i64 y7, .int .i64 y8, .int .i64 y9, .int .i64 y10]] W (Begun8 W d)) := by
  obtain ⟨wk, cp, pg, st, tr, wt, ck, pr, ca, bi, ba, R0, S0⟩ := some_gives y0 y1 y2 y3 y4 y5 y6 y7 y8 y9 y10 f0 f1 f2 f3 f4 f5 f6 f7 f8 f9 f10
  have R : Cfg.Ok ⟨wk, cp, pg, st, tr, wt, ck, pr, ca, bi, ba⟩ := R0
  exact ⟨_, small_small R, fun W => begin_any R y0 y1 y2 y3 y4 y5 y6 y7 y8 y9 y10 W S0.out⟩

theorem Ws.of_row' {w : World} {a : Option Addr} {cap : Nat} {zs : List Int} (h : RowAt w 3 (zs.map (Value.int .i64)) a cap) (hne : 0 < zs.length) : ∃ g, a = some ⟨g, 0, none⟩ ∧ Ws w g cap zs := by
  rcases h with ⟨_, _, q⟩ | ⟨g, cur, rfl, hg, h1, h2, h3, h4⟩
  · have : zs = [] := List.map_eq_nil_iff.1 q
    rw [this] at hne; simp at hne
  · refine ⟨g, rfl, cur, hg, by simpa using h1, h2, h3, fun i hi => ?_⟩
    have h5 : (cur.toList.take (zs.map (Value.int .i64)).length)[i]? = some (.int .i64 (zs.getD i 0)) := by
      rw [h4, List.getElem?_map, List.getElem?_eq_getElem hi]; simp [List.getD, hi]
    rw [List.getElem?_take, if_pos (by simpa using hi)] at h5
    simpa using h5
end Go.Proofs.YtogfikemodaepaaGreat
