/-
  Texts that belong together: Buf, RuleBuf, BufAny, EdText, EdSame.
-/
import Derived.Test.YtlohoamhgioheaaDoorBytes
import Derived.WalkSpells
import Derived.Shelf.RegionOpenPlain
import Derived.Lib.Strings
import Derived.Lib.Builder
import Derived.Lib.AppendStr
import Derived.Lib.UnsafeStr
import Derived.Laws.Externs
import Derived.Test.YtlohoamhgioheaaDoorPathLib
import Derived.Test.YtlohoamhgioheaaDoorEdRead
import Derived.Test.YtlohoamhgioheaaDoorAutoEdEq
/-
  strings.Builder: WriteString, String.
-/
namespace Go.Proofs.YtlohoamhgioheaaDoor
open Go.RowKit
set_option maxRecDepth 100000

theorem bufSize : (Tryd.prog.info? 60).map (·.size) = some 2 := by kernel_rfl
theorem bufLies : liesAt Tryd.prog Tryd.prog.depth 60 (2 / Tryd.prog.cellsOf 60) 0 60 1 = true := by kernel_rfl
abbrev BufAt (B b : Nat) (p : Value) (bs : List Value) (w : World) : Prop := Lib.BuilderAt 60 5 B b p bs w
abbrev IsBuf (B b : Nat) (bs : List Value) (w : World) : Prop := Lib.IsBuilder 60 5 B b bs w

/-- Blocks of other things than bytes lie as they lay, but for block b. -/
def Spares (b : Nat) (w w' : World) : Prop := ∀ (k : Nat) (cs : Array Value) (T : TypeId) (fr : Nat × Nat), w.heap[k]? = some (.cells cs T fr) → k ≠ b → T ≠ 5 → w'.heap[k]? = some (.cells cs T fr)
theorem Spares.refl (b : Nat) (w : World) : Spares b w w := fun _ _ _ _ h _ _ => h
theorem Spares.trans {b : Nat} {w w1 w2 : World} (h : Spares b w w1) (k : Spares b w1 w2) : Spares b w w2 := fun i cs T fr h1 h2 h3 => k i cs T fr (h i cs T fr h1 h2 h3) h2 h3
theorem Spares.alloc (b : Nat) (w : World) (o : Obj) : Spares b w (w.alloc o) := fun _ _ _ _ h1 _ _ => (Below.heap_alloc _ _ _ (Array.getElem?_eq_some_iff.1 h1).1).trans h1
theorem Spares.setCell (b j : Nat) (w : World) (v : Value) : Spares b w (w.setCell ⟨b, j, none⟩ v) := fun _ _ _ _ h1 h2 _ => (heap_setCell_other _ _ _ _ h2).trans h1
theorem Spares.grown {b B n : Nat} {w w' : World} {v : Value} {xs : List Value} (hown : w.ownsRow B 5 1 v n xs) (hg : w.grownBy w' v.ownBlock) : Spares b w w' := fun i _ _ _ h1 _ h3 =>
  (hg.block i (Array.getElem?_eq_some_iff.1 h1).1 (fun e => Lib.ownBlock_ne hown h1 h3 e.symm)).trans h1

set_option maxHeartbeats 1000000 in
theorem bufCheck_used (b : Nat) (w : World) (h0 : w.cell? ⟨b, 0, none⟩ = some (.pointer (some ⟨b, 0, none⟩))) :
    Calls Tryd.prog 48 #[.pointer (some ⟨b, 0, none⟩)] w fun e w' => e = .returned (.tuple #[]) ∧ w' = w := by
  obtain ⟨j, hj, _⟩ := Option.map_eq_some_iff.1 bufSize
  go_enter Tryd.func48, Tryd.ntmps48
  go_wp2
  rw [Lib.run_neq_ptr_same w _ Tryd.underlying57 hj]
  go_wp2
  go_end0
  exact ⟨rfl, rfl⟩

set_option maxHeartbeats 1000000 in
theorem bufCheck_fresh (b : Nat) (w : World) (h0 : w.cell? ⟨b, 0, none⟩ = some (.pointer none)) (hsh : w.shape? b = some (60, 2)) (hfz : w.frozen? ⟨b, 0, none⟩ = false) :
    Calls Tryd.prog 48 #[.pointer (some ⟨b, 0, none⟩)] w fun e w' => e = .returned (.tuple #[]) ∧ w' = w.setCell ⟨b, 0, none⟩ (.pointer (some ⟨b, 0, none⟩)) := by
  obtain ⟨j, hj, hjs⟩ := Option.map_eq_some_iff.1 bufSize
  go_enter Tryd.func48, Tryd.ntmps48
  go_wp2
  rw [Lib.run_to_unsafe w ⟨b, 0, none⟩ Tryd.underlying57 Tryd.underlying84 hj (by rw [hjs]; decide) hsh (Nat.zero_lt_succ 1)]
  simp only [Result.andThen]
  rw [Oper.upon_value]
  go_wp2
  rw [run_callFunc_extern Tryd.func61 (by kernel_rfl) (by kernel_rfl) (by kernel_rfl) (e := Extern.AbiNoEscape.same) (by kernel_rfl)]
  rw [Lib.run_noEscape]
  simp only [Result.andThen]
  rw [Oper.upon_value]
  go_wp2
  rw [Lib.run_from_unsafe w ⟨b, 0, none⟩ Tryd.underlying84 Tryd.underlying57 hj hsh bufLies]
  simp only [Result.andThen]
  rw [Oper.upon_value]
  go_wp2
  go_end0
  exact ⟨rfl, rfl⟩

theorem bufCheck (B b : Nat) (bs : List Value) (w : World) (h : IsBuf B b bs w) :
    Calls Tryd.prog 48 #[.pointer (some ⟨b, 0, none⟩)] w fun e w' => e = .returned (.tuple #[]) ∧ (BufAt B b (.pointer (some ⟨b, 0, none⟩)) bs w' ∧ Below B w w' ∧ Spares b w w') := by
  rcases h with h | h
  · refine (bufCheck_fresh b w h.cell0 h.shape h.frozen0).mono ?_
    rintro e w' ⟨rfl, rfl⟩
    exact ⟨rfl, h.used _, (Below.refl B w).setCell (p := ⟨b, 0, none⟩) h.1 _, Spares.setCell _ _ _ _⟩
  · refine (bufCheck_used b w h.cell0).mono ?_
    rintro e w' ⟨rfl, rfl⟩
    exact ⟨rfl, h, Below.refl B _, Spares.refl _ _⟩

set_option maxHeartbeats 2000000 in
theorem bufText (B b : Nat) (bs : List Value) (s : ByteArray) (w : World) (h : IsBuf B b bs w) (hlen : bs.length + s.size ≤ 140737488355328) (hBw : B ≤ w.heap.size) :
    Calls Tryd.prog 32 #[.pointer (some ⟨b, 0, none⟩), .string s] w fun e w' => e = .returned (.tuple #[.int .i64 s.size, .nilIface]) ∧ (BufAt B b (.pointer (some ⟨b, 0, none⟩)) (bs ++ Lib.strCells s) w' ∧ Below B w w' ∧ Spares b w w') := by
  obtain ⟨i0, hi, hz0, hz1, hz2⟩ := info_parts info_byte
  have HC := hide (bufCheck B b bs w h)
  clear h
  go_enter Tryd.func32, Tryd.ntmps32
  go_wp2_with fail
  refine (HC.out).mono ?_
  rintro e w1 ⟨rfl, h1, hb1, hs1⟩
  obtain ⟨hB, v, hbk, hown, hne⟩ := h1
  have c0 : w1.cell? ⟨b, 0, none⟩ = some (.pointer (some ⟨b, 0, none⟩)) := by rw [Lib.cell_of_heap hbk]; rfl
  have c1 : w1.cell? ⟨b, 1, none⟩ = some v := by rw [Lib.cell_of_heap hbk]; rfl
  go_wp2_with (at_builtin; refine Lib.wpList_append_own_string _ rfl _ _ 58 9 rfl B 5 i0 Tryd.underlying58 Tryd.underlying9 hi hz0 hz1 hz2 _ _ _ rfl hown s rfl ?c3 ?c4 ?c5 ?_)
  case c3 => unfold maxLen; omega
  case c4 => omega
  case c5 => have := hb1.size; omega
  intro v' w2 hown' hgrow _
  have hlt : b < w1.heap.size := (Array.getElem?_eq_some_iff.1 hbk).1
  have hb2 : w2.heap[b]? = some (.cells #[.pointer (some ⟨b, 0, none⟩), v] 60 (0, 0)) := by
    rw [hgrow.block b hlt (fun e => hne e.symm)]
    exact hbk
  have d0 : w2.cell? ⟨b, 0, none⟩ = some (.pointer (some ⟨b, 0, none⟩)) := by rw [Lib.cell_of_heap hb2]; rfl
  have d1 : w2.cell? ⟨b, 1, none⟩ = some v := by rw [Lib.cell_of_heap hb2]; rfl
  have f1 : w2.frozen? ⟨b, 1, none⟩ = false := Lib.frozen_of_heap hb2 1
  obtain ⟨ao, n', cap, rfl⟩ : ∃ ao n' cap, v' = .slice ao n' cap := by
    rcases hown'.2 with ⟨hv, _⟩ | ⟨g, cap, cur, hv, _⟩
    · exact ⟨_, _, _, hv⟩
    · exact ⟨_, _, _, hv⟩
  have HF := hide (And.intro (Lib.BuilderAt.put (T := 60) (e := 5) hB hb2 (bs' := bs ++ Lib.strCells s) (by simpa [Lib.strCells_length] using hown') (by decide)) (And.intro ((hb1.grown hgrow (by have := hb1.size; omega) (fun k hk => (hown.lt k hk).1)).setCell (p := ⟨b, 1, none⟩) hB (.slice ao n' cap)) ((hs1.trans (Spares.grown hown hgrow)).trans (Spares.setCell b 1 w2 (.slice ao n' cap)))))
  clear hown' hgrow hown hbk hb2 c0 c1 HC hs1
  go_wp2
  go_ret2
  exact ⟨rfl, HF.out⟩

set_option maxHeartbeats 2000000 in
theorem bufString (B b : Nat) (l : List UInt8) (w : World) (h : IsBuf B b (Lib.byteCells l) w) (h0 : l ≠ []) :
    Calls Tryd.prog 34 #[.pointer (some ⟨b, 0, none⟩)] w fun e w' => e = .returned (.string ⟨l.toArray⟩) ∧ Below B w w' := by
  obtain ⟨p, hB, v, hbk, hown, hne⟩ : ∃ p, BufAt B b p (Lib.byteCells l) w := by
    rcases h with h | h
    · exact ⟨_, h⟩
    · exact ⟨_, h⟩
  have hl0 : l.length ≠ 0 := by simpa using h0
  rw [Lib.byteCells_length] at hown
  obtain ⟨g, cap, cur, rfl, hbg, hg, hnc, hcm, hcs, htake⟩ : ∃ g cap cur, v = .slice (some ⟨g, 0, none⟩) l.length cap ∧ B ≤ g ∧ w.heap[g]? = some (.cells cur 5 (0, 0)) ∧ l.length ≤ cap ∧ cap ≤ maxLen ∧ cur.size = cap * 1 ∧ cur.toList.take (l.length * 1) = Lib.byteCells l := by
    rcases hown.2 with ⟨_, hz⟩ | ⟨g, cap, cur, hv, r⟩
    · exact absurd hz hl0
    · exact ⟨g, cap, cur, hv, r⟩
  have c1 : w.drew.cell? ⟨b, 1, none⟩ = some (.slice (some ⟨g, 0, none⟩) l.length cap) := by
    have : w.drew.heap[b]? = some (.cells #[p, .slice (some ⟨g, 0, none⟩) l.length cap] 60 (0, 0)) := hbk
    rw [Lib.cell_of_heap this]; rfl
  have hSD : (Builtin.unsafeSliceData_ #[58] 78 #[.slice (some ⟨g, 0, none⟩) l.length cap]).run Tryd.prog w.drew = .ok (.pointer (some ⟨g, 0, none⟩)) w.drew :=
    Lib.run_unsafeSliceData_row _ _ _ _ _ _ (by omega)
  have hUS : (Builtin.unsafeString_ #[78, 3] 9 #[.pointer (some ⟨g, 0, none⟩), .int .i64 l.length]).run Tryd.prog w.drew = .ok (.string ⟨l.toArray⟩) (w.drew.freeze ⟨g, 0, none⟩ l.length) := by
    refine Lib.run_unsafeString_row w.drew 78 3 9 5 Tryd.underlying78 (by kernel_rfl) g cur.size (by have hg' : w.drew.heap[g]? = some (.cells cur 5 (0, 0)) := hg; simp [World.shape?, hg']) l h0 (by omega) (by unfold maxLen at hcm; omega) ?_
    intro j x hx
    have := hown.cells (g := g) rfl j (.int .u8 x.toNat) (by simp [Lib.byteCells, hx])
    exact this
  have hmx : Tryd.prog.follows .mixedOrders = true := by kernel_rfl
  go_enter Tryd.func34, Tryd.ntmps34
  go_wp2
  go_region_o
  all_goals (go_wp2; go_ret; exact ⟨rfl, Lib.below_freeze (Below.drew (Below.refl B w)) (p := ⟨g, 0, none⟩) hbg _⟩)
set_option maxHeartbeats 2000000 in
theorem bufString_nil (B b : Nat) (p : Value) (w : World) (hbk : w.heap[b]? = some (.cells #[p, .slice none 0 0] 60 (0, 0))) :
    Calls Tryd.prog 34 #[.pointer (some ⟨b, 0, none⟩)] w fun e w' => e = .returned (.string ⟨#[]⟩) ∧ Below B w w' := by
  have hUS := fun (W : World) (q : Option Addr) => Lib.run_unsafeString_none (P := Tryd.prog) W 78 3 9 q
  have c1 : w.drew.cell? ⟨b, 1, none⟩ = some (.slice none 0 0) := by
    have : w.drew.heap[b]? = some (.cells #[p, .slice none 0 0] 60 (0, 0)) := hbk
    rw [Lib.cell_of_heap this]; rfl
  have hSD : (Builtin.unsafeSliceData_ #[58] 78 #[.slice none 0 0]).run Tryd.prog w.drew = .ok (.pointer none) w.drew := rfl
  have hmx : Tryd.prog.follows .mixedOrders = true := by kernel_rfl
  go_enter Tryd.func34, Tryd.ntmps34
  go_wp2
  go_region_o
  all_goals (go_wp2; go_ret; exact ⟨rfl, Below.drew (Below.refl B w)⟩)
end Go.Proofs.YtlohoamhgioheaaDoor
/-
  strings.Builder: WriteByte.
-/
namespace Go.Proofs.YtlohoamhgioheaaDoor
open Go.RowKit
set_option maxRecDepth 100000

set_option maxHeartbeats 2000000 in
theorem bufByte (B b : Nat) (bs : List Value) (c : Int) (w : World) (h : IsBuf B b bs w) (hlen : bs.length + 1 ≤ 140737488355328) (hBw : B ≤ w.heap.size) :
    Calls Tryd.prog 33 #[.pointer (some ⟨b, 0, none⟩), .int .u8 c] w fun e w' => e = .returned .nilIface ∧ (BufAt B b (.pointer (some ⟨b, 0, none⟩)) (bs ++ [.int .u8 c]) w' ∧ Below B w w' ∧ Spares b w w') := by
  obtain ⟨i0, hi, hz0, hz1, hz2⟩ := info_parts info_byte
  have HC := hide (bufCheck B b bs w h)
  clear h
  go_enter Tryd.func33, Tryd.ntmps33
  go_wp2_with fail
  refine (HC.out).mono ?_
  rintro e w1 ⟨rfl, h1, hb1, hs1⟩
  obtain ⟨hB, v, hbk, hown, hne⟩ := h1
  have c0 : w1.cell? ⟨b, 0, none⟩ = some (.pointer (some ⟨b, 0, none⟩)) := by rw [Lib.cell_of_heap hbk]; rfl
  have c1 : w1.cell? ⟨b, 1, none⟩ = some v := by rw [Lib.cell_of_heap hbk]; rfl
  go_wp2_with (at_builtin; refine wpList_append_own _ rfl _ _ 58 rfl B 5 i0 (.int .u8 0) 1 1 Tryd.underlying58 hi hz0 hz1 hz2 rfl (by decide) _ _ _ rfl (hown.alloc _) ⟨w1.heap.size, 0, none⟩ 1 1 [.int .u8 c] rfl rfl ?c1 ?c2 ?c3 ?c4 ?c5 ?_)
  case c1 =>
    intro j u hj
    match j, hj with
    | 0, hj => simp at hj; subst hj; simp [Addr.add]
  case c2 => intro u hu; simp at hu; subst hu; rfl
  case c3 => unfold maxLen; omega
  case c4 => omega
  case c5 => have := hb1.size; simp; omega
  intro v' w2 hown' hgrow _
  have hlt : b < w1.heap.size := (Array.getElem?_eq_some_iff.1 hbk).1
  have hb2 : w2.heap[b]? = some (.cells #[.pointer (some ⟨b, 0, none⟩), v] 60 (0, 0)) := by
    rw [hgrow.block b (by simp; omega) (fun e => hne e.symm), Below.heap_alloc _ _ _ hlt]
    exact hbk
  have d0 : w2.cell? ⟨b, 0, none⟩ = some (.pointer (some ⟨b, 0, none⟩)) := by rw [Lib.cell_of_heap hb2]; rfl
  have d1 : w2.cell? ⟨b, 1, none⟩ = some v := by rw [Lib.cell_of_heap hb2]; rfl
  have f1 : w2.frozen? ⟨b, 1, none⟩ = false := Lib.frozen_of_heap hb2 1
  obtain ⟨g, cap, rfl⟩ : ∃ g cap, v' = .slice (some ⟨g, 0, none⟩) (bs.length + 1) cap := by
    rcases hown'.2 with ⟨_, h0⟩ | ⟨g, cap, cur, hv, _⟩
    · omega
    · exact ⟨g, cap, hv⟩
  have HF := hide (And.intro (Lib.BuilderAt.put (T := 60) (e := 5) hB hb2 (bs' := bs ++ [.int .u8 c]) (by simpa using hown') (by decide)) (And.intro (((hb1.alloc (by have := hb1.size; omega) _).grown hgrow (by have := hb1.size; simp; omega) (fun k hk => (hown.lt k hk).1)).setCell (p := ⟨b, 1, none⟩) hB (.slice (some ⟨g, 0, none⟩) (bs.length + 1) cap)) (((hs1.trans (Spares.alloc b w1 _)).trans (Spares.grown (hown.alloc _) hgrow)).trans (Spares.setCell b 1 w2 (.slice (some ⟨g, 0, none⟩) (bs.length + 1) cap)))))
  clear hown' hgrow hown hbk hb2 c0 c1 HC hs1
  go_wp2
  go_ret
  exact ⟨rfl, HF.out⟩
end Go.Proofs.YtlohoamhgioheaaDoor
/-
  strings.Builder: String, whatever it holds.
-/
namespace Go.Proofs.YtlohoamhgioheaaDoor
open Go.RowKit
set_option maxRecDepth 100000

set_option maxHeartbeats 2000000 in
theorem bufString_room (B b g cap : Nat) (p : Value) (w : World) (hc : cap ≠ 0) (hbk : w.heap[b]? = some (.cells #[p, .slice (some ⟨g, 0, none⟩) 0 cap] 60 (0, 0))) :
    Calls Tryd.prog 34 #[.pointer (some ⟨b, 0, none⟩)] w fun e w' => e = .returned (.string ⟨#[]⟩) ∧ Below B w w' := by
  have hUS := fun (W : World) (q : Option Addr) => Lib.run_unsafeString_none (P := Tryd.prog) W 78 3 9 q
  have c1 : w.drew.cell? ⟨b, 1, none⟩ = some (.slice (some ⟨g, 0, none⟩) 0 cap) := by
    have : w.drew.heap[b]? = some (.cells #[p, .slice (some ⟨g, 0, none⟩) 0 cap] 60 (0, 0)) := hbk
    rw [Lib.cell_of_heap this]; rfl
  have hSD : (Builtin.unsafeSliceData_ #[58] 78 #[.slice (some ⟨g, 0, none⟩) 0 cap]).run Tryd.prog w.drew = .ok (.pointer (some ⟨g, 0, none⟩)) w.drew :=
    Lib.run_unsafeSliceData_row _ _ _ _ _ _ hc
  have hmx : Tryd.prog.follows .mixedOrders = true := by kernel_rfl
  go_enter Tryd.func34, Tryd.ntmps34
  go_wp2
  go_region_o
  all_goals (go_wp2; go_ret; exact ⟨rfl, Below.drew (Below.refl B w)⟩)
set_option maxHeartbeats 2000000 in
theorem bufString_noroom (B b g : Nat) (p : Value) (cur : Array Value) (w : World) (hBw : B ≤ w.heap.size) (hbk : w.heap[b]? = some (.cells #[p, .slice (some ⟨g, 0, none⟩) 0 0] 60 (0, 0))) (hg : w.heap[g]? = some (.cells cur 5 (0, 0))) :
    Calls Tryd.prog 34 #[.pointer (some ⟨b, 0, none⟩)] w fun e w' => e = .returned (.string ⟨#[]⟩) ∧ Below B w w' := by
  have hUS := fun (W : World) (q : Option Addr) => Lib.run_unsafeString_none (P := Tryd.prog) W 78 3 9 q
  have c1 : w.drew.cell? ⟨b, 1, none⟩ = some (.slice (some ⟨g, 0, none⟩) 0 0) := by
    have : w.drew.heap[b]? = some (.cells #[p, .slice (some ⟨g, 0, none⟩) 0 0] 60 (0, 0)) := hbk
    rw [Lib.cell_of_heap this]; rfl
  have hlt : b < w.drew.heap.size := (Array.getElem?_eq_some_iff.1 hbk).1
  have hSD : (Builtin.unsafeSliceData_ #[58] 78 #[.slice (some ⟨g, 0, none⟩) 0 0]).run Tryd.prog w.drew = .ok (.pointer (some ⟨w.drew.heap.size, 0, none⟩)) (w.drew.alloc (.view ⟨g, 0, none⟩ 5)) :=
    Lib.run_unsafeSliceData_zero _ _ _ _ Tryd.underlying78 _ _ (5, cur.size) (by have hg' : w.drew.heap[g]? = some (.cells cur 5 (0, 0)) := hg; simp [World.shape?, hg'])
  have c2 : (w.alloc (.view ⟨g, 0, none⟩ 5)).cell? ⟨b, 1, none⟩ = some (.slice (some ⟨g, 0, none⟩) 0 0) := (((Below.refl w.drew.heap.size w.drew).alloc (Nat.le_refl _) (.view ⟨g, 0, none⟩ 5)).cell (p := ⟨b, 1, none⟩) hlt).trans c1
  have hmx : Tryd.prog.follows .mixedOrders = true := by kernel_rfl
  have HB := hide (show Below B w (w.drew.alloc (.view ⟨g, 0, none⟩ 5)) from (Below.drew (Below.refl B w)).alloc (show B ≤ w.drew.heap.size from hBw) _)
  go_enter Tryd.func34, Tryd.ntmps34
  go_wp2
  go_region_o
  all_goals (go_wp2; go_ret; exact ⟨rfl, HB.out⟩)
theorem bufString_any (B b : Nat) (l : List UInt8) (w : World) (h : IsBuf B b (Lib.byteCells l) w) (hBw : B ≤ w.heap.size) :
    Calls Tryd.prog 34 #[.pointer (some ⟨b, 0, none⟩)] w fun e w' => e = .returned (.string ⟨l.toArray⟩) ∧ Below B w w' := by
  cases l with
  | cons x r => exact bufString B b (x :: r) w h (by simp)
  | nil =>
    obtain ⟨p, hB, v, hbk, hown, hne⟩ : ∃ p, BufAt B b p (Lib.byteCells []) w := by
      rcases h with h | h
      · exact ⟨_, h⟩
      · exact ⟨_, h⟩
    rcases hown.2 with ⟨rfl, _⟩ | ⟨g, cap, cur, rfl, _, hg, _⟩
    · exact bufString_nil B b p w hbk
    · by_cases hc : cap = 0
      · subst hc; exact bufString_noroom B b g p cur w hBw hbk hg
      · exact bufString_room B b g cap p w hc hbk
end Go.Proofs.YtlohoamhgioheaaDoor
/-
  edit.Text.
-/
namespace Go.Proofs.YtlohoamhgioheaaDoor
open Go.RowKit
set_option maxRecDepth 100000

theorem own_step {w w' : World} {B n : Nat} {T : TypeId} {v : Value} {xs : List Value} (h : w.ownsRow B T 1 v n xs) (hb : Below w.heap.size w w') : w'.ownsRow B T 1 v n xs := h.kept (grownBy_below hb) (by cases v.ownBlock <;> simp)
theorem edBufAt_step {B b : Nat} {p : Value} {bs : List Value} {w w' : World} (h : BufAt B b p bs w) (hb : Below w.heap.size w w') : BufAt B b p bs w' := by
  obtain ⟨hB, v, hbk, hown, hne⟩ := h
  exact ⟨hB, v, (hb.block _ (Array.getElem?_eq_some_iff.1 hbk).1).trans hbk, own_step hown hb, hne⟩
theorem edBuf_step {B b : Nat} {bs : List Value} {w w' : World} (h : IsBuf B b bs w) (hb : Below w.heap.size w w') : IsBuf B b bs w' := by
  rcases h with h | h
  · exact .inl (edBufAt_step h hb)
  · exact .inr (edBufAt_step h hb)
theorem ed_snoc (l : List UInt8) (c : UInt8) (n : Int) (h : n = c.toNat) : Lib.byteCells l ++ [.int .u8 n] = Lib.byteCells (l ++ [c]) := by
  rw [h]; simp [Lib.byteCells]
theorem ed_text (l : List UInt8) (s : ByteArray) : Lib.byteCells l ++ Lib.strCells s = Lib.byteCells (l ++ toL s) := by
  simp [Lib.byteCells, Lib.strCells, toL]
/-- Edits' lines, one behind the other. -/
def catT (l : List Et) : List UInt8 := l.flatMap fun e => toL (lineT e) ++ [10]
def allT (l : List Et) : Bool := l.all fun e => !(lineT e).toList.isEmpty
def textV (l : List Et) : List UInt8 := if allT l then catT l else []
theorem cat_take (l : List Et) (i : Nat) (e : Et) (h : l[i]? = some e) : catT (l.take (i + 1)) = catT (l.take i) ++ (toL (lineT e) ++ [10]) := by
  obtain ⟨hlt, rfl⟩ := List.getElem?_eq_some_iff.1 h
  rw [List.take_succ_eq_append_getElem hlt]
  unfold catT
  rw [List.flatMap_append]
  simp
theorem all_drop (l : List Et) (i : Nat) (e : Et) (h : l[i]? = some e) : allT (l.drop i) = (!(lineT e).toList.isEmpty && allT (l.drop (i + 1))) := by
  obtain ⟨hlt, rfl⟩ := List.getElem?_eq_some_iff.1 h
  rw [List.drop_eq_getElem_cons hlt]; rfl
/-- Edits whose paths are short. -/
def Short (l : List Et) : Prop := ∀ (k : Nat) (e : Et), l[k]? = some e → (e.f.size : Int) ≤ 200 ∧ (e.t.size : Int) ≤ 200
theorem lineT_small (e : Et) (hf : (e.f.size : Int) ≤ 200) (ht : (e.t.size : Int) ≤ 200) : (lineT e).size ≤ 900000 := by
  unfold lineT
  cases hr : rightE e.k e.f e.t e.n with
  | true =>
    have := line_len e.k e.f e.t e.n hr (by omega) (by omega)
    unfold lineB
    rw [if_pos hr]
    show (Lib.join ((partsB e.k e.f e.t e.n).map toL) [32]).toArray.size ≤ _
    simpa using this
  | false =>
    unfold lineB
    rw [hr]
    exact Nat.zero_le _
theorem RdE.below' {w W W2 : World} {A : Option Addr} {l : List Et} (h : RdE W w.heap.size A l) (h1 : Below w.heap.size w W) (h2 : Below w.heap.size w W2) : RdE W2 w.heap.size A l := fun k r hk => by
  obtain ⟨ad, e, hlt, c⟩ := h k r hk
  have hb : (ad.add (k * 4)).block < w.heap.size := by rw [add_block]; exact hlt
  refine ⟨ad, e, hlt, ?_, ?_, ?_, ?_⟩
  · exact ((h2.cell hb).trans (h1.cell hb).symm).trans c.k
  · exact ((h2.cell (p := ⟨(ad.add (k * 4)).block, _, none⟩) hb).trans (h1.cell (p := ⟨(ad.add (k * 4)).block, _, none⟩) hb).symm).trans c.f
  · exact ((h2.cell (p := ⟨(ad.add (k * 4)).block, _, none⟩) hb).trans (h1.cell (p := ⟨(ad.add (k * 4)).block, _, none⟩) hb).symm).trans c.t
  · exact ((h2.cell (p := ⟨(ad.add (k * 4)).block, _, none⟩) hb).trans (h1.cell (p := ⟨(ad.add (k * 4)).block, _, none⟩) hb).symm).trans c.n

set_option maxHeartbeats 4000000 in
theorem text_any (A : Option Addr) (l : List Et) (c : Nat) (w : World) (hT : Tabs w) (hA : RdE w w.heap.size A l) (hf : Short l) (hl : (l.length : Int) ≤ 20) :
    Calls Tryd.prog 16 #[.slice A l.length c] w fun e w' => (∃ g : ByteArray, e = .returned (.string g) ∧ toL g = textV l) ∧ Below w.heap.size w w' := by
  have HF := hide hf
  have HTb := hide hT
  clear hf hT
  go_enter Tryd.func16, Tryd.ntmps16
  go_wp2_with fail
  go_loopg [9] l.length (fun gk iv wr => ∃ (i : Nat) (L : List UInt8), iv = .int .i64 i ∧ i + gk = l.length ∧ Hid (L = catT (l.take i)) ∧ Hid (allT (l.drop i) = allT l) ∧ (L.length : Int) ≤ 900001 * i ∧ IsBuf w.heap.size w.heap.size (Lib.byteCells L) wr ∧ Below w.heap.size w wr ∧ RdE wr w.heap.size A l)
  case atStart =>
    have hn := World.alloc_heap_new w (.cells #[.pointer none, .slice none 0 0] 60)
    refine ⟨0, [], rfl, by omega, hide rfl, hide rfl, by decide, .inl ⟨Nat.le_refl _, _, hn, World.ownsRow_nil _ _ _ _, by simp [Value.ownBlock]⟩, (Below.refl _ _).alloc (Nat.le_refl _) _, hA.below ((Below.refl _ _).alloc (Nat.le_refl _) _) (Nat.le_refl _)⟩
  case round =>
    obtain ⟨i, L, rfl, hig, HL, HAl, hLs, hbuf, hB, hR⟩ := hrel
    clear hA
    cases gk with
    | zero =>
      obtain rfl : i = l.length := by omega
      have HE := hide (show textV l = L by unfold textV; rw [← HAl.out, List.drop_length, HL.out, List.take_length]; rfl)
      have HS := hide (bufString_any w.heap.size w.heap.size L wr hbuf hB.size)
      clear hbuf
      go_wp2_with fail
      refine (HS.out).mono ?_
      rintro e w1 ⟨rfl, hb1⟩
      go_wp2_with fail
      exact bodyPost_ret (results_tmp rfl _ _ _) rfl ⟨⟨_, rfl, by rw [HE.out]; simp [toL]⟩, hB.trans hb1⟩
    | succ g0 =>
      have hii : (i : Int) < l.length := by omega
      obtain ⟨r, hr⟩ : ∃ r, l[i]? = some r := ⟨_, List.getElem?_eq_getElem (by omega)⟩
      obtain ⟨ad, rfl, hlt, hnd⟩ := hR i r hr
      have c0 := hnd.k
      have c1 := hnd.f
      have c2 := hnd.t
      have c3 := hnd.n
      obtain ⟨hs1, hs2⟩ := HF.out i r hr
      have hsz := lineT_small r hs1 hs2
      have hct := cat_take l i r hr
      rw [← HL.out] at hct
      have hal := all_drop l i r hr
      rw [HAl.out] at hal
      have HC := hide hct
      have HAL := hide hal
      obtain ⟨W3, hW3⟩ : ∃ W3, W3 = wr.alloc (.cells r.cells 23) := ⟨_, rfl⟩
      have hBW3 : Below wr.heap.size wr W3 := by rw [hW3]; exact (Below.refl _ _).alloc (Nat.le_refl _) _
      have hbuf3 := edBuf_step hbuf hBW3
      have HB3 := hide (show Below w.heap.size w W3 from hB.trans (hBW3.mono hB.size))
      have HR := hide hR
      have HBw := hide hB
      have HLn := hide (line_any r.k r.f r.t r.n W3 (HTb.out.below HB3.out) (by omega) (by omega))
      have HBuf3 := hide hbuf3
      obtain ⟨LB, hLB⟩ : ∃ LB, LB = lineT r := ⟨_, rfl⟩
      have hLB2 : lineB r.k r.f r.t r.n = LB := hLB.symm
      rw [hLB2] at HLn
      rw [← hLB] at hsz HC HAL
      simp only [Et.cells] at hW3
      have HZ := hide hsz
      clear hct hal hbuf hbuf3 hBW3 hr hnd HL HAl hLB hLB2 hR hB hsz hs1 hs2
      go_wp2_with fail
      rw [← hW3]
      clear hW3 c0 c1 c2 c3
      refine (HLn.out).mono ?_
      rintro e w4 ⟨rfl, hb4⟩
      have HB4 := hide (HB3.out.trans (hb4.mono HB3.out.size))
      have HBuf4 := hide (edBuf_step HBuf3.out hb4)
      clear hb4 HBuf3 HLn
      cases he : LB.toList.isEmpty with
      | true =>
        have HE := hide (show textV l = [] by unfold textV; rw [HAL.out, he]; rfl)
        go_wp2_with fail
        exact bodyPost_ret (results_tmp rfl _ _ _) rfl ⟨⟨⟨#[]⟩, rfl, by rw [HE.out]; rfl⟩, HB4.out⟩
      | false =>
        have HAl2 := hide (show allT (l.drop (i + 1)) = allT l by rw [HAL.out, he]; rfl)
        have H3 := hide (bufText w.heap.size w.heap.size _ LB w4 HBuf4.out (by rw [Lib.byteCells_length]; have := HZ.out; omega) HB4.out.size)
        clear HBuf4
        go_wp2_with fail
        refine (H3.out).mono ?_
        rintro e w6 ⟨rfl, hb6, hB6, hs6⟩
        rw [ed_text] at hb6
        have k6 := HB4.out.trans hB6
        have hplen : (toL LB).length = LB.size := by simp [toL]
        have H4 := hide (bufByte w.heap.size w.heap.size _ 10 w6 (.inr hb6) (by rw [Lib.byteCells_length, List.length_append, hplen]; have := HZ.out; omega) k6.size)
        clear hb6 hB6 hs6 H3
        go_wp2_with fail
        refine (H4.out).mono ?_
        rintro e w7 ⟨rfl, hb7, hB7, hs7⟩
        rw [ed_snoc _ 10 10 rfl] at hb7
        have k7 := k6.trans hB7
        clear hB7 hs7 H4
        go_wp2_with fail
        go_roundg g0
        case rel => exact ⟨i + 1, (L ++ toL LB) ++ [10], rfl, by omega, hide (by rw [HC.out]; simp), HAl2, by simp only [List.length_append, hplen]; have := HZ.out; simp; omega, .inr hb7, k7, HR.out.below' HBw.out k7⟩
        case measure => omega
end Go.Proofs.YtlohoamhgioheaaDoor
/-
  The reference's Same, of two lists of the same edits.
-/
namespace Go.Proofs.YtlohoamhgioheaaDoor
open Go.RowKit
set_option maxRecDepth 100000

set_option maxHeartbeats 4000000 in
theorem edSame_any (A C : Option Addr) (l : List Et) (c d : Nat) (w : World) (hA : RdE w w.heap.size A l) (hC : RdE w w.heap.size C l) (hl : (l.length : Int) ≤ 1000000) :
    Calls Tryd.prog 18 #[.slice A l.length c, .slice C l.length d] w fun e w' => e = .returned (.bool true) ∧ Below w.heap.size w w' := by
  go_enter Tryd.func18, Tryd.ntmps18
  go_wp2_with fail
  go_loopg [5] l.length (fun gk iv wr => ∃ i : Nat, iv = .int .i64 i ∧ i + gk = l.length ∧ Below w.heap.size w wr ∧ RdE wr wr.heap.size A l ∧ RdE wr wr.heap.size C l)
  case atStart => exact ⟨0, rfl, by omega, Below.refl _ _, hA, hC⟩
  case round =>
    obtain ⟨i, rfl, hig, hB, hR, hS⟩ := hrel
    clear hA hC
    cases gk with
    | zero =>
      obtain rfl : i = l.length := by omega
      go_wp2_with fail
      exact bodyPost_ret (results_tmp rfl _ _ _) rfl ⟨rfl, hB⟩
    | succ g0 =>
      have hii : (i : Int) < l.length := by omega
      obtain ⟨e, he⟩ : ∃ e, l[i]? = some e := ⟨_, List.getElem?_eq_getElem (by omega)⟩
      obtain ⟨ad, rfl, hlt, hnd⟩ := hR i e he
      obtain ⟨bd, rfl, hltb, hnb⟩ := hS i e he
      obtain ⟨k, f, t, n⟩ := e
      have c0 := hnd.k
      have c1 := hnd.f
      have c2 := hnd.t
      have c3 := hnd.n
      have b0 := hnb.k
      have b1 := hnb.f
      have b2 := hnb.t
      have b3 := hnb.n
      have hne := fun W => et_neq ⟨k, f, t, n⟩ W
      simp only [Et.cells] at hne c0 c1 c2 c3 b0 b1 b2 b3
      have HB := hide hB
      have HR := hide hR
      have HS := hide hS
      clear hnd hnb he hB hR hS
      go_wp2_with fail
      go_quiet (fail)
      go_wp2_with fail
      go_roundg g0
      case rel => exact ⟨i + 1, rfl, by omega, below_drewN HB.out _, HR.out.step (below_drewN (Below.refl _ _) _), HS.out.step (below_drewN (Below.refl _ _) _)⟩
      case measure => omega
end Go.Proofs.YtlohoamhgioheaaDoor
