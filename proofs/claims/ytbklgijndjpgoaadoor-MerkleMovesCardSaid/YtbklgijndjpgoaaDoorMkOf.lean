/-
  merkle: of, a node's print: a file's; a directory's that is kept; a directory's that is reckoned and kept.
-/
import Derived.Test.YtbklgijndjpgoaaDoorMkLook
import Derived.Test.YtbklgijndjpgoaaDoorMkData
namespace Go.Proofs.YtbklgijndjpgoaaDoor
open Go.RowKit
set_option maxRecDepth 100000

theorem below_grown {w w' : World} (h : w.grownBy w' none) : Below w.heap.size w w' := ⟨h.os, h.tape, h.output, h.size, fun k hk => h.block k hk (by simp)⟩
/-- Nodes are read as they were, where a map alone was written. -/
theorem RdN.grown {w w' : World} {b B : Nat} {A : Option Addr} {l : List Nd} {L : List ByteArray} {f : ByteArray → Option Value} (h : RdN w B A l) (hm : MapIs w b L f) (hg : w.grownBy w' (some b)) : RdN w' B A l := fun k n hn => by
  obtain ⟨ad, e, hlt, c⟩ := h k n hn
  refine ⟨ad, e, hlt, ?_⟩
  obtain ⟨c0, c1, c2, c3, c4⟩ := c
  exact ⟨hg.cell c0 (by simpa using hm.no_cell c0), hg.cell c1 (by simpa using hm.no_cell c1), hg.cell c2 (by simpa using hm.no_cell c2), hg.cell c3 (by simpa using hm.no_cell c3), hg.cell c4 (by simpa using hm.no_cell c4)⟩
theorem PrOk.below {W W' : World} {B M : Nat} {t : List Nd} (h : PrOk W B t M) (hb : Below M W W') : PrOk W' B t M := by
  obtain ⟨hl, hs, h1, ⟨L, f, hm, hf⟩, g, hk, hg'⟩ := h
  obtain ⟨D, hm1, hm2⟩ := hm
  obtain ⟨es, clock, hm3, hm4⟩ := hm1
  obtain ⟨E, hk1, hk2⟩ := hk
  obtain ⟨es', clock', hk3, hk4⟩ := hk1
  refine ⟨hl, Nat.le_trans hs hb.size, (hb.block _ (by omega)).trans h1, ⟨L, f, ⟨D, ⟨es, clock, (hb.block _ (by omega)).trans hm3, hm4⟩, hm2⟩, fun p => ?_⟩, g, ⟨E, ⟨es', clock', (hb.block _ (by omega)).trans hk3, hk4⟩, hk2⟩, hg'⟩
  obtain ⟨A, c, e, hr⟩ := hf p
  exact ⟨A, c, e, hr.below hb (Nat.le_refl _)⟩
theorem PrOk.step {W W' : World} {B M : Nat} {t : List Nd} (h : PrOk W B t M) (hg : W.grownBy W' none) : PrOk W' B t M := h.below ((below_grown hg).mono h.size)
theorem PrOk.lt {W : World} {B M : Nat} {t : List Nd} (h : PrOk W B t M) : B + 2 < W.heap.size := (Array.getElem?_eq_some_iff.1 h.row).1
/-- A directory's print is kept. -/
theorem PrOk.keep {W : World} {B M : Nat} {t : List Nd} {p : ByteArray} (h : PrOk W B t M) (hp : p ∈ ⟨#[]⟩ :: t.map Nd.path) (hs : p.size ≤ maxLen) (hl : t.length ≤ 600) :
    ∃ W', (Instr.mapUpdate 68 (.map (some (B + 1))) (.string p) (.agg #[.int .u64 ((sumL (dirT t p)).1 : Nat), .int .u64 ((sumL (dirT t p)).2 : Nat)])).run Tryd.prog W = .ok () W' ∧ PrOk W' B t M ∧ W.grownBy W' (some (B + 1)) := by
  obtain ⟨hlo, hsz, h1, ⟨L, f, hm, hf⟩, g, hk, hg'⟩ := h
  obtain ⟨W', hrun, hk2, hgr⟩ := hk.put Tryd.underlying68 p hs hp (by simp; unfold maxLen; omega) (stV (sumL (dirT t p)))
  refine ⟨W', hrun, ⟨hlo, Nat.le_trans hsz hgr.size, (hgr.block _ (Array.getElem?_eq_some_iff.1 h1).1 (by simp)).trans h1, ⟨L, f, hm.kept hgr (by simp), fun q => ?_⟩, _, hk2, fun q s hq => ?_⟩, hgr⟩
  · obtain ⟨A, c, e, hr⟩ := hf q
    exact ⟨A, c, e, hr.grown hk hgr⟩
  · unfold setF at hq
    split at hq
    · rename_i e
      injection hq with hq
      rw [← hq, e]
    · exact hg' q s hq
theorem zero_sum (w : World) : (zeroValue 28).run Tryd.prog w = .ok (.agg #[.int .u64 0, .int .u64 0]) w := by kernel_rfl
/-- What is kept of a path: nothing, or its print. -/
theorem PrOk.look {W : World} {B M : Nat} {t : List Nd} (h : PrOk W B t M) (p : ByteArray) (hs : p.size ≤ maxLen) :
    (∀ W', W.grownBy W' none → (Instr.lookup 68 (.map (some (B + 1))) (.string p) true).run Tryd.prog W' = .ok (.tuple #[.agg #[.int .u64 0, .int .u64 0], .bool false]) W') ∨
    (∀ W', W.grownBy W' none → (Instr.lookup 68 (.map (some (B + 1))) (.string p) true).run Tryd.prog W' = .ok (.tuple #[.agg #[.int .u64 ((sumL (dirT t p)).1 : Nat), .int .u64 ((sumL (dirT t p)).2 : Nat)], .bool true]) W') := by
  obtain ⟨_, _, _, _, g, hk, hg'⟩ := h
  cases hp : g p with
  | none =>
    refine .inl fun W' hg => ?_
    rw [(hk.kept hg (by simp)).look_ok Tryd.underlying68 (zero_sum W') p hs, hp]; rfl
  | some s =>
    refine .inr fun W' hg => ?_
    rw [(hk.kept hg (by simp)).look_ok Tryd.underlying68 (zero_sum W') p hs, hp, hg' p s hp]; rfl

/-- What a print's reckoning answers. -/
def PrPost (w : World) (B M : Nat) (t : List Nd) (q : Nat × Nat) (e : Ending) (w' : World) : Prop := e = .returned (.agg #[.int .u64 (q.1 : Nat), .int .u64 (q.2 : Nat)]) ∧ PrOk w' B t M ∧ w.grownBy w' (some (B + 1))
theorem grown_any {w w' : World} (h : w.grownBy w' none) (r : Option Nat) : w.grownBy w' r := ⟨h.os, h.tape, h.output, h.size, fun k hk _ => h.block k hk (by simp)⟩

theorem set_pair (w3 : World) (g : Nat) (a b x y : Value) (t : TypeId) (h : w3.heap[g]? = some (.cells #[a, b] t (0, 0))) :
    ∃ W, W = (w3.setCell ⟨g, 0, none⟩ x).setCell ⟨g, 1, none⟩ y ∧ W.heap[g]? = some (.cells #[x, y] t (0, 0)) ∧ w3.grownBy W (some g) := by
  refine ⟨_, rfl, heap_setCell_same _ g 1 _ _ y (heap_setCell_same w3 g 0 _ _ x h), ⟨rfl, rfl, rfl, by simp, fun k _ hk => ?_⟩⟩
  have hkg : k ≠ g := by simpa using hk
  exact (Below.heap_setCell _ ⟨g, 1, none⟩ y k hkg).trans (Below.heap_setCell w3 ⟨g, 0, none⟩ x k hkg)
/-- A later block is written besides. -/
theorem grown_over {w a b : World} {r : Option Nat} {g : Nat} (h : w.grownBy a r) (hg : a.grownBy b (some g)) (hge : w.heap.size ≤ g) : w.grownBy b r :=
  ⟨hg.os.trans h.os, hg.tape.trans h.tape, hg.output.trans h.output, Nat.le_trans h.size hg.size, fun k hk hr => (hg.block k (Nat.lt_of_lt_of_le hk h.size) (by simp; omega)).trans (h.block k hk hr)⟩
theorem PrOk.over {W W' : World} {B M g : Nat} {t : List Nd} (h : PrOk W B t M) (hg : W.grownBy W' (some g)) (hM : M ≤ g) : PrOk W' B t M :=
  h.below ((Below.refl M W).grown hg h.size (fun k hk => by cases hk; exact hM))
set_option maxHeartbeats 8000000 in
theorem of_file (B M : Nat) (t : List Nd) (n : Nd) (w : World) (hk : (n.kind == 1) = false) (hd : (n.data.size : Int) ≤ 1000000) (h : PrOk w B t M) :
    Calls Tryd.prog 24 #[.pointer (some ⟨B + 2, 0, none⟩), .agg n.cells] w (PrPost w B M t (sumL (toL n.data))) := by
  have HD := hide (fun W => data_any n W hd)
  obtain ⟨path, kind, mode, time, data⟩ := n
  simp only at hk hd HD
  show Calls _ _ #[_, .agg #[.string path, .int .i64 kind, .int .i64 mode, .int .i64 time, .string data]] _ _
  obtain ⟨r0, r1, hB⟩ := two_rows w #[.string path, .int .i64 kind, .int .i64 mode, .int .i64 time, .string data] #[.int .u64 0, .int .u64 0] 34 28
  rw [show stV (sumL (toL data)) = .agg #[.int .u64 ((sumL (toL data)).1 : Nat), .int .u64 ((sumL (toL data)).2 : Nat)] from rfl] at HD
  generalize sumL (toL data) = q at HD ⊢
  have H := hide h
  simp only [Nd.cells] at HD
  have c0 := cell_of_row _ _ 0 _ _ _ r0
  have c1 := cell_of_row _ _ 1 _ _ _ r0
  have c2 := cell_of_row _ _ 2 _ _ _ r0
  have c3 := cell_of_row _ _ 3 _ _ _ r0
  have c4 := cell_of_row _ _ 4 _ _ _ r0
  clear h
  go_enter Tryd.func24, Tryd.ntmps24
  go_wp2_with (go_at_call 12; refine (HD.out _).mono ?_; rintro e w3 ⟨rfl, hB4⟩; have s3 := (hB4.block (w.heap.size + 1) (Array.getElem?_eq_some_iff.1 r1).1).trans r1; have z0 : w3.frozen? ⟨w.heap.size + 1, 0, none⟩ = false := frozen_of_row _ _ _ _ _ s3; have z1 : w3.frozen? ⟨w.heap.size + 1, 1, none⟩ = false := frozen_of_row _ _ _ _ _ s3; have d0 : w3.cell? ⟨w.heap.size + 1, 0, none⟩ = some (.int .u64 0) := cell_of_row _ _ _ _ _ _ s3; have d1 : w3.cell? ⟨w.heap.size + 1, 1, none⟩ = some (.int .u64 0) := cell_of_row _ _ _ _ _ _ s3)
  have hB7 := hB.trans (hB4.mono hB.size)
  obtain ⟨y0, y1, hBf⟩ := set_two w w3 (w.heap.size + 1) _ _ (.int .u64 (q.1 : Nat)) (.int .u64 (q.2 : Nat)) _ s3 (Nat.le_succ _) hB7
  have hgf := grownBy_below hBf
  refine bodyPost_ret (v := .agg #[.int .u64 (q.1 : Nat), .int .u64 (q.2 : Nat)]) (by simp [results, Tryd.results24, go_sem, y0, y1]) rfl ⟨rfl, H.out.step hgf, grown_any hgf _⟩

end Go.Proofs.YtbklgijndjpgoaaDoor
