/-
  strings.SplitSeq at a slash: the iterator's contract. It stores into its captured text.
-/
import Derived.Test.YtlohoamhgioheaaDoorRange
import Derived.Test.YtlohoamhgioheaaDoorPathLib
import Derived.Test.YtlohoamhgioheaaDoorBase
import Derived.OwnWalkIn
import Derived.TacticsInMore
import Derived.LoopNIn
import Derived.LoopIn
import Derived.Shelf.Abstract
import Derived.Shelf.RegionOpen
namespace Go.Proofs.YtlohoamhgioheaaDoor
open Go.RowKit Go.Shelf
set_option maxRecDepth 100000
attribute [local go_sem] Oper.semAt_some

/-- What stands between slashes. -/
def splitL : List UInt8 → List (List UInt8)
  | [] => [[]]
  | c :: r => if c == 47 then [] :: splitL r else match splitL r with
    | [] => [[c]]
    | h :: t => (c :: h) :: t

theorem splitL_ne (l : List UInt8) : splitL l ≠ [] := by
  cases l with
  | nil => simp [splitL]
  | cons c r =>
    unfold splitL
    split
    · simp
    · split <;> simp

theorem splitL_none : ∀ l : List UInt8, Lib.indexByte l 47 = -1 → splitL l = [l]
  | [], _ => rfl
  | c :: r, h => by
    unfold Lib.indexByte at h
    split at h
    · omega
    · rename_i hc
      have hr : Lib.indexByte r 47 = -1 := by
        split at h
        · rename_i h1; simpa using h1
        · have := Lib.indexByte_ge r 47; omega
      unfold splitL
      rw [if_neg hc, splitL_none r hr]

theorem splitL_some : ∀ (l : List UInt8) (o : Nat), Lib.indexByte l 47 = o → splitL l = l.take o :: splitL (l.drop (o + 1)) ∧ o < l.length
  | [], o, h => by unfold Lib.indexByte at h; omega
  | c :: r, o, h => by
    unfold Lib.indexByte at h
    split at h
    · rename_i hc
      obtain rfl : o = 0 := by omega
      unfold splitL
      rw [if_pos hc]
      simp
      cases r <;> simp [splitL]
    · rename_i hc
      split at h
      · omega
      · rename_i h1
        have hge := Lib.indexByte_ge r 47
        obtain ⟨o', ho⟩ : ∃ o' : Nat, Lib.indexByte r 47 = o' := ⟨(Lib.indexByte r 47).toNat, by simp at h1; omega⟩
        obtain rfl : o = o' + 1 := by omega
        obtain ⟨e, hl⟩ := splitL_some r o' ho
        constructor
        · rw [splitL.eq_def]
          simp only [hc, if_false, Bool.false_eq_true, e]
          simp
        · simp; omega

def boxLen (w : World) (b : Nat) : Nat := match w.cell? ⟨b, 0, none⟩ with | some (.string t) => t.size | _ => 0
theorem boxLen_eq {w : World} {b : Nat} {t : ByteArray} (h : w.cell? ⟨b, 0, none⟩ = some (.string t)) : boxLen w b = t.size := by unfold boxLen; rw [h]

set_option maxRecDepth 100000 in
set_option maxHeartbeats 2000000 in
theorem split_seq (n : Nat) (bs bp bv : Nat) (s : ByteArray) (w : World) (hss : (s.size : Int) ≤ 9223372036854775800) (hn1 : bs ≠ bp) (hn2 : bs ≠ bv) (l1 : bs < w.heap.size) (l2 : bp < w.heap.size) (l3 : bv < w.heap.size)
    (c1 : w.heap[bs]? = some (.cells #[.string s] 9 (0, 0))) (c2 : w.heap[bp]? = some (.cells #[.string ⟨#[47]⟩] 9 (0, 0))) (c3 : w.heap[bv]? = some (.cells #[.int .i64 0] 3 (0, 0))) :
    SeqT Fence.wide n Tryd.prog 84 #[.pointer (some ⟨bp, 0, none⟩), .pointer (some ⟨bs, 0, none⟩), .pointer (some ⟨bv, 0, none⟩)] (fun x : ByteArray => #[.string x]) [bs, bp, bv]
      (fun xs => xs.map toL = splitL (toL s)) (fun pre => pre.map toL <+: splitL (toL s)) w := by
  intro l J Jx W hW hJ hJx hY h0
  have hJ := hJ W.heap.size (Nat.le_refl _)
  have hY := fun pre x W1 => hY W.heap.size pre x W1 (Nat.le_refl _)
  have h0 := h0 W.heap.size (Nat.le_refl _)
  refine (CallsIn.mono ?_ (fun e W' (h : (∃ v, e = Ending.returned v) ∧ ((∃ xs : List ByteArray, xs.map toL = splitL (toL s) ∧ J W.heap.size xs W') ∨ (∃ pre : List ByteArray, pre.map toL <+: splitL (toL s) ∧ Jx W.heap.size pre W'))) => ⟨h.1, W.heap.size, Nat.le_refl _, h.2⟩))
  have k1 : W.heap[bs]? = some (.cells #[.string s] 9 (0, 0)) := (hW.block _ l1).trans c1
  have k2 : W.heap[bp]? = some (.cells #[.string ⟨#[47]⟩] 9 (0, 0)) := (hW.block _ l2).trans c2
  have k3 : W.heap[bv]? = some (.cells #[.int .i64 0] 3 (0, 0)) := (hW.block _ l3).trans c3
  clear c1 c2 c3 hW l1 l2 l3 hJx
  have d1 : W.cell? ⟨bs, 0, none⟩ = some (.string s) := cell_of_row _ _ _ _ _ _ k1
  have d2 : W.cell? ⟨bp, 0, none⟩ = some (.string ⟨#[47]⟩) := cell_of_row _ _ _ _ _ _ k2
  have d3 : W.cell? ⟨bv, 0, none⟩ = some (.int .i64 0) := cell_of_row _ _ _ _ _ _ k3
  refine callsIn_of_wp Tryd.func84 rfl trivial ?_ rfl
  simp only [Tryd.ntmps84, List.size_toArray, List.length_cons, List.length_nil, Nat.reduceAdd, Nat.reduceSub, Array.replicate_succ, Array.replicate_zero, List.push_toArray, List.append_toArray, List.nil_append, List.cons_append]
  gi_wp2
  gi_loopw [7] (fun _ wr => ∃ (pre : List ByteArray) (t : ByteArray), wr.heap[bs]? = some (.cells #[.string t] 9 (0, 0)) ∧ wr.heap[bp]? = some (.cells #[.string ⟨#[47]⟩] 9 (0, 0)) ∧ wr.heap[bv]? = some (.cells #[.int .i64 0] 3 (0, 0)) ∧ Hid (pre.map toL ++ splitL (toL t) = splitL (toL s)) ∧ t.size ≤ s.size ∧ W.heap.size ≤ wr.heap.size ∧ J W.heap.size pre wr) (fun _ wr => boxLen wr bs)
  case atStart => exact ⟨[], s, k1, k2, k3, hide rfl, Nat.le_refl _, Nat.le_refl _, h0⟩
  case round =>
    obtain ⟨pre, t, e1, e2, e3, HP, hts, hsz, hj⟩ := hrel
    have f1 : wr.cell? ⟨bs, 0, none⟩ = some (.string t) := cell_of_row _ _ _ _ _ _ e1
    have f2 : wr.cell? ⟨bp, 0, none⟩ = some (.string ⟨#[47]⟩) := cell_of_row _ _ _ _ _ _ e2
    have f3 : wr.cell? ⟨bv, 0, none⟩ = some (.int .i64 0) := cell_of_row _ _ _ _ _ _ e3
    have z1 : wr.frozen? ⟨bs, 0, none⟩ = false := frozen_of_row _ _ _ _ _ e1
    clear d1 d2 d3 k1 k2 k3
    by_cases hi : Lib.indexByte t.data.toList 47 = -1
    · have hs1 := splitL_none _ hi
      have HE := hide (show (pre ++ [t]).map toL = splitL (toL s) by rw [← HP.out, List.map_append, show splitL (toL t) = [toL t] from hs1]; rfl)
      obtain ⟨fn, tmps, assign, body, hy, hR⟩ := hY pre t wr hsz hj (by rw [HE.out]; exact List.prefix_refl _)
      have HR := hide hR
      clear hY hR
      gi_wp2_with fail
      refine ⟨trivial, fun h => (by cases h), (callsIn_wide.2 (index_any t 47 _)).mono ?_⟩
      rintro e w' ⟨rfl, rfl⟩
      rw [hi]
      gi_wp2_with fail
      refine ⟨fun h => (by cases h), HR.out.mono ?_⟩
      rintro e W' (⟨rfl, hJ', hk⟩ | ⟨rfl, hJx', hk⟩)
      · gi_wp2
        go_end0
        exact ⟨⟨_, rfl⟩, .inl ⟨pre ++ [t], HE.out, hJ'⟩⟩
      · gi_wp2
        go_end0
        exact ⟨⟨_, rfl⟩, .inr ⟨pre ++ [t], by rw [HE.out]; exact List.prefix_refl _, hJx'⟩⟩
    · have hge := Lib.indexByte_ge t.data.toList 47
      obtain ⟨o, ho⟩ : ∃ o : Nat, Lib.indexByte t.data.toList 47 = o := ⟨(Lib.indexByte t.data.toList 47).toNat, by omega⟩
      obtain ⟨hs1, hol⟩ := splitL_some _ o ho
      rw [← Lib.size_eq] at hol
      have hx : toL (t.extract 0 o) = t.data.toList.take o := by unfold toL; rw [Lib.extract_data]; simp
      have hy2 : toL (t.extract (o + 1) t.size) = t.data.toList.drop (o + 1) := by
        unfold toL
        rw [Lib.extract_data, List.take_of_length_le (by simp)]
      have HE := hide (show (pre ++ [t.extract 0 o]).map toL ++ splitL (toL (t.extract (o + 1) t.size)) = splitL (toL s) by
        rw [← HP.out, List.map_append, hy2, show splitL (toL t) = t.data.toList.take o :: splitL (t.data.toList.drop (o + 1)) from hs1, ← hx]
        simp)
      obtain ⟨fn, tmps, assign, body, hy, hR⟩ := hY pre (t.extract 0 o) wr hsz hj ⟨_, HE.out⟩
      have HR := hide hR
      have ho1 : (o : Int) < t.size := by omega
      have ho2 : (o : Int) ≤ 9223372036854775800 := by omega
      have hsz2 : (t.extract (o + 1) t.size).size < t.size := by simp [ByteArray.size_extract]; omega
      have HZ := hide hsz2
      have HO := hide ho
      clear hR hi hge hs1 hx hy2 hsz2 ho
      gi_wp2_with fail
      refine ⟨trivial, fun h => (by cases h), (callsIn_wide.2 (index_any t 47 _)).mono ?_⟩
      rintro e w' ⟨rfl, rfl⟩
      rw [HO.out]
      gi_wp2_with fail
      refine ⟨fun h => (by cases h), HR.out.mono ?_⟩
      rintro e W' (⟨rfl, hJ', hk⟩ | ⟨rfl, hJx', hk⟩)
      · have g1 := (hk.2 bs (.inl (by simp))).trans e1
        have g2 := (hk.2 bp (.inl (by simp))).trans e2
        have g3 := (hk.2 bv (.inl (by simp))).trans e3
        have p1 : W'.cell? ⟨bs, 0, none⟩ = some (.string t) := cell_of_row _ _ _ _ _ _ g1
        have p2 : W'.cell? ⟨bp, 0, none⟩ = some (.string ⟨#[47]⟩) := cell_of_row _ _ _ _ _ _ g2
        have q1 : W'.frozen? ⟨bs, 0, none⟩ = false := frozen_of_row _ _ _ _ _ g1
        gi_wp2
        go_roundw
        case rel => exact ⟨pre ++ [t.extract 0 o], t.extract (o + 1) t.size, heap_setCell_same _ _ _ _ _ _ g1, (heap_setCell_other _ _ _ _ (fun e => hn1 e.symm)).trans g2, (heap_setCell_other _ _ _ _ (fun e => hn2 e.symm)).trans g3, HE, by have := HZ.out; omega, by have := hk.1; simp [World.setCell]; omega,
          hJ _ W' _ (some bs) hJ' (grownBy_setCell _ _ _) (fun r e => by cases e; exact .inl (by simp))⟩
        case measure => rw [boxLen_eq (cell_of_row _ _ _ _ _ _ (heap_setCell_same _ _ _ _ _ _ g1)), boxLen_eq f1]; exact HZ.out
      · gi_wp2
        refine bodyPost_ret (results_none rfl _ _ _) rfl ?_
        exact ⟨⟨_, rfl⟩, .inr ⟨pre ++ [t.extract 0 o], ⟨_, HE.out⟩, hJx'⟩⟩
end Go.Proofs.YtlohoamhgioheaaDoor
