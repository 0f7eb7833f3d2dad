/-
  ChunkOnly: one step, handed to a view.
-/
import Derived.Test.YtonenkgjlmcfkaaChunkRow
import Derived.Test.YtonenkgjlmcfkaaChunkLives
namespace Go.Proofs.Ytonenkgjlmcfkaa
open Go.RowKit Go.Sort Go.Maps Go.Shelf
set_option linter.unusedVariables false
set_option linter.unusedSimpArgs false

set_option maxRecDepth 100000 in
set_option maxHeartbeats 1000000 in
theorem only_clo {c : Cfg} (R : c.Ok) {n : Nat} (H : TblIn c.pg c.st n) (hn : n ≤ 10000) (F : Nat → Prop) (p g1 g2 : Nat) (kn : Int → Option Int) (kind k y : Int) (hx : W64 k) (W : World) (hv : ViewAt W F p kn []) (hk : OkK kn) (h1 : W.heap[g1]? = some (.cells c.arr 28 (0, 0))) (h2 : W.heap[g2]? = some (.cells #[.int .i64 kind, .int .i64 k, .int .i64 y] 41 (0, 0))) (n1 : ¬ F g1) (n2 : ¬ F g2) :
    Calls Try.prog 27 #[.pointer (some ⟨p, 0, none⟩), .pointer (some ⟨g1, 0, none⟩), .pointer (some ⟨g2, 0, none⟩)] W (WentY W F (fun _ => False) (fun w' => w'.heap[g1]? = some (.cells c.arr 28 (0, 0)) ∧ w'.heap[g2]? = some (.cells #[.int .i64 kind, .int .i64 k, .int .i64 y] 41 (0, 0))) (fun _ => True) p kn (ranOf (doneP c.pg c.st kind k y kn []))) := by
  have H1 := Lib.hid h1
  have H2 := Lib.hid h2
  have hl1 := lt_of_heap h1
  have hl2 := lt_of_heap h2
  have DN := Lib.hid (c_done R H hn F p kn [] kind k y hx W hv hk (invD_nil n))
  clear hv h1 h2 hk R
  go_enter Try.func27, Try.ntmps27
  go_wp2_with (first
    | refine wpList_load_row rfl 28 _ rfl g1 rfl 28 _ _ _ H1.out Try.underlying28 rfl (by kernel_rfl) ?_
    | refine wpList_load_row rfl 41 _ rfl g2 rfl 41 _ _ _ H2.out Try.underlying41 rfl (by kernel_rfl) ?_)
  refine DN.out.mono ?_
  intro e w1 he
  cases hE : doneP c.pg c.st kind k y kn [] with
  | need a =>
    rw [hE] at he
    obtain ⟨rfl, hd, ht⟩ := he
    refine ⟨rfl, (?_ : WentY W F (fun _ => False) _ (fun _ => True) p kn (ranOf (doneP c.pg c.st kind k y kn [])) _ _)⟩
    rw [hE]
    exact ⟨rfl, hd, ht.mono (fun _ _ q => .inl q), (ht.block g1 hl1 n1).trans H1.out, (ht.block g2 hl2 n2).trans H2.out⟩
  | ok x D =>
    rw [hE] at he
    obtain ⟨rfl, F', hv1, ht, hf⟩ := he
    have FIN := Lib.hid (And.intro (And.intro hv1 ht) hE)
    clear hv1 ht hE
    go_wp2_with fail
    go_end0
    show WentY W F (fun _ => False) _ (fun _ => True) p kn (ranOf (doneP c.pg c.st kind k y kn [])) _ _
    rw [FIN.out.2]
    have ht := FIN.out.1.2
    exact ⟨rfl, ⟨F', FIN.out.1.1⟩, ht.mono (fun _ _ q => .inl q), ⟨(ht.block g1 hl1 n1).trans H1.out, (ht.block g2 hl2 n2).trans H2.out⟩, trivial⟩

theorem only_do {c : Cfg} (R : c.Ok) (zs : List Int) (H : TblIn c.pg c.st zs.length) (hlen : zs.length ≤ 1000) (hz : OkW zs) (kind k y : Int) (hx : W64 k) (w : World) (g1 g2 : Nat) (a : Option Addr) (cap : Nat) (h1 : w.heap[g1]? = some (.cells c.arr 28 (0, 0))) (h2 : w.heap[g2]? = some (.cells #[.int .i64 kind, .int .i64 k, .int .i64 y] 41 (0, 0))) (hw : IsWords w a zs) :
    Calls Try.prog 9 #[.slice a zs.length cap, .func (.func 27) #[] #[.pointer (some ⟨g1, 0, none⟩), .pointer (some ⟨g2, 0, none⟩)]] w (fun e w' => ∃ v1 v2, e = .returned (.tuple #[v1, v2, .int .i64 0]) ∧ Rw w.heap.size w' v1 (doneV c.pg c.st kind k y zs).2 ∧ More w w') := by
  have l1 := lt_of_heap h1
  have l2 := lt_of_heap h2
  have G := good_done H kind k y
  obtain ⟨K', hK', _⟩ := flat_do (sound_done c.pg c.st kind k y) G hz (flat_done H kind k y)
  have M := doY_ok a cap zs (fun K => ranOf (doneP c.pg c.st kind k y (look K) [])) (some ((doneV c.pg c.st kind k y zs).2, K')) zs.length w hw hlen hz (fine_of G hz (by omega)) (by omega) hK' 27 #[.pointer (some ⟨g1, 0, none⟩), .pointer (some ⟨g2, 0, none⟩)] (fun _ => False)
    (fun w' => w'.heap[g1]? = some (.cells c.arr 28 (0, 0)) ∧ w'.heap[g2]? = some (.cells #[.int .i64 kind, .int .i64 k, .int .i64 y] 41 (0, 0))) (fun _ => True)
    (fun k q => q.elim)
    (fun w' w'' y t => ⟨(t.block g1 (lt_of_heap y.1) (by omega)).trans y.1, (t.block g2 (lt_of_heap y.2) (by omega)).trans y.2⟩)
    (fun w' w'' y t => trivial) ⟨h1, h2⟩ (enters_of Try.func27 (by kernel_rfl) rfl)
    (fun K hK W F p t yy hv hF => only_clo R H (by omega) F p g1 g2 (look K) kind k y hx W hv (okK_of hK hz) yy.1 yy.2 (fun q => by have := hF _ q; omega) (fun q => by have := hF _ q; omega))
  refine M.mono ?_
  rintro e w' ⟨v1, v2, rfl, r1, _, t, _, _⟩
  exact ⟨v1, v2, rfl, r1, t⟩
end Go.Proofs.Ytonenkgjlmcfkaa
