/-
  Texts that belong together: PathLib, PathSplit, PathName, PathRight, PathNamesL, PathGlue.
-/
import Derived.Test.YtbklgijndjpgoaaDoorProg
import Derived.Test.YtbklgijndjpgoaaDoorMkBase
import Derived.WalkKit
import Derived.WalkSpells
import Derived.Lib.IndexLaws
import Derived.Lib.Bytealg
import Derived.Lib.Strings
import Derived.Test.YtbklgijndjpgoaaDoorRange
import Derived.OwnWalkIn
import Derived.TacticsInMore
import Derived.LoopNIn
import Derived.LoopIn
import Derived.Shelf.Abstract
import Derived.Shelf.RegionOpen
/-
  What package strings answers for a separator of one byte: where it first stands.
-/
namespace Go.Proofs.YtbklgijndjpgoaaDoor
open Go.RowKit
set_option maxRecDepth 100000

set_option maxHeartbeats 400000 in
theorem indexByte_any (s : ByteArray) (c : UInt8) (w : World) :
    Calls Tryd.prog 94 #[.string s, .int .u8 c.toNat] w fun e w' => e = .returned (.int .i64 (Lib.indexByte s.data.toList c)) ∧ w = w' := by
  go_enter Tryd.func94, Tryd.ntmps94
  go_wp2
  rw [run_callFunc_extern Tryd.func98 (by kernel_rfl) (by kernel_rfl) (by kernel_rfl) (e := Extern.BytealgIndexByte.indexByte) (by kernel_rfl), Lib.run_indexByteString]
  simp only [Result.andThen]
  rw [Oper.upon_value]
  go_wp2
  go_ret
  exact ⟨by simp, rfl⟩

set_option maxRecDepth 100000 in
set_option maxHeartbeats 1000000 in
theorem slIndex_any (s : ByteArray) (c : UInt8) (w : World) :
    Calls Tryd.prog 93 #[.string s, .string ⟨#[c]⟩] w fun e w' => e = .returned (.int .i64 (Lib.indexByte s.data.toList c)) ∧ w = w' := by
  cases hE : ([c] == s.toList) with
  | true =>
    have e : s.data.toList = [c] := by rw [← Lib.toList_data]; exact (beq_iff_eq.1 hE).symm
    have HR := hide (show Lib.indexByte s.data.toList c = 0 by rw [e]; simp [Lib.indexByte])
    clear e
    go_enter Tryd.func93, Tryd.ntmps93
    go_wp2
    go_ret
    exact ⟨by rw [HR.out]; rfl, rfl⟩
  | false =>
    go_enter Tryd.func93, Tryd.ntmps93
    go_wp2_with (go_at_call 94; refine (indexByte_any s c _).mono ?_; rintro e w' ⟨rfl, rfl⟩)
    go_ret
    exact ⟨rfl, rfl⟩

set_option maxHeartbeats 400000 in
theorem index_any (s : ByteArray) (c : UInt8) (w : World) :
    Calls Tryd.prog 91 #[.string s, .string ⟨#[c]⟩] w fun e w' => e = .returned (.int .i64 (Lib.indexByte s.data.toList c)) ∧ w = w' := by
  go_enter Tryd.func91, Tryd.ntmps91
  go_wp2_with fail
  refine (slIndex_any s c _).mono ?_
  rintro e w1 ⟨rfl, rfl⟩
  go_wp2
  go_ret
  exact ⟨rfl, rfl⟩

/-! ### paths.Name -/
def letter (n : Int) : Bool := (decide (97 ≤ n) && decide (n ≤ 122)) || (decide (65 ≤ n) && decide (n ≤ 90)) || (decide (48 ≤ n) && decide (n ≤ 57)) || n == 46 || n == 95 || n == 45

set_option maxHeartbeats 800000 in
theorem ofName_any (n : Int) (w : World) :
    Calls Tryd.prog 84 #[.int .u8 n] w fun e w' => e = .returned (.bool (letter n)) ∧ w = w' := by
  by_cases e46 : n = 46
  · subst e46
    go_enter Tryd.func84, Tryd.ntmps84
    go_wp2
    go_ret
    exact ⟨rfl, rfl⟩
  by_cases e95 : n = 95
  · subst e95
    go_enter Tryd.func84, Tryd.ntmps84
    go_wp2
    go_ret
    exact ⟨rfl, rfl⟩
  by_cases e45 : n = 45
  · subst e45
    go_enter Tryd.func84, Tryd.ntmps84
    go_wp2
    go_ret
    exact ⟨rfl, rfl⟩
  have d46 : (n == 46) = false := beq_eq_false_iff_ne.2 e46
  have d95 : (n == 95) = false := beq_eq_false_iff_ne.2 e95
  have d45 : (n == 45) = false := beq_eq_false_iff_ne.2 e45
  clear e46 e95 e45
  by_cases r0 : n < 48
  · have HL := hide (show letter n = false by unfold letter; rw [d46, d95, d45]; simp; omega)
    have f0 : ¬ 97 ≤ n := by omega
    have f1 : ¬ 65 ≤ n := by omega
    have f2 : ¬ 48 ≤ n := by omega
    clear r0
    go_enter Tryd.func84, Tryd.ntmps84
    go_wp2
    go_ret
    exact ⟨by rw [HL.out]; rfl, rfl⟩
  by_cases r1 : 48 ≤ n ∧ n ≤ 57
  · have HL := hide (show letter n = true by unfold letter; rw [d46, d95, d45]; simp; omega)
    have f0 : ¬ 97 ≤ n := by omega
    have f1 : ¬ 65 ≤ n := by omega
    have f2 : 48 ≤ n := by omega
    have f3 : n ≤ 57 := by omega
    clear r1
    go_enter Tryd.func84, Tryd.ntmps84
    go_wp2
    go_ret
    exact ⟨by rw [HL.out]; rfl, rfl⟩
  by_cases r2 : 57 < n ∧ n < 65
  · have HL := hide (show letter n = false by unfold letter; rw [d46, d95, d45]; simp; omega)
    have f0 : ¬ 97 ≤ n := by omega
    have f1 : ¬ 65 ≤ n := by omega
    have f2 : 48 ≤ n := by omega
    have f3 : ¬ n ≤ 57 := by omega
    clear r2
    go_enter Tryd.func84, Tryd.ntmps84
    go_wp2
    go_ret
    exact ⟨by rw [HL.out]; rfl, rfl⟩
  by_cases r3 : 65 ≤ n ∧ n ≤ 90
  · have HL := hide (show letter n = true by unfold letter; rw [d46, d95, d45]; simp; omega)
    have f0 : ¬ 97 ≤ n := by omega
    have f1 : 65 ≤ n := by omega
    have f2 : n ≤ 90 := by omega
    clear r3
    go_enter Tryd.func84, Tryd.ntmps84
    go_wp2
    go_ret
    exact ⟨by rw [HL.out]; rfl, rfl⟩
  by_cases r4 : 90 < n ∧ n < 97
  · have HL := hide (show letter n = false by unfold letter; rw [d46, d95, d45]; simp; omega)
    have f0 : ¬ 97 ≤ n := by omega
    have f1 : 65 ≤ n := by omega
    have f2 : ¬ n ≤ 90 := by omega
    have f3 : 48 ≤ n := by omega
    have f4 : ¬ n ≤ 57 := by omega
    clear r4
    go_enter Tryd.func84, Tryd.ntmps84
    go_wp2
    go_ret
    exact ⟨by rw [HL.out]; rfl, rfl⟩
  by_cases r5 : 97 ≤ n ∧ n ≤ 122
  · have HL := hide (show letter n = true by unfold letter; rw [d46, d95, d45]; simp; omega)
    have f0 : 97 ≤ n := by omega
    have f1 : n ≤ 122 := by omega
    clear r5
    go_enter Tryd.func84, Tryd.ntmps84
    go_wp2
    go_ret
    exact ⟨by rw [HL.out]; rfl, rfl⟩
  by_cases r6 : 122 < n
  · have HL := hide (show letter n = false by unfold letter; rw [d46, d95, d45]; simp; omega)
    have f0 : 97 ≤ n := by omega
    have f1 : ¬ n ≤ 122 := by omega
    have f2 : 65 ≤ n := by omega
    have f3 : ¬ n ≤ 90 := by omega
    have f4 : 48 ≤ n := by omega
    have f5 : ¬ n ≤ 57 := by omega
    clear r6
    go_enter Tryd.func84, Tryd.ntmps84
    go_wp2
    go_ret
    exact ⟨by rw [HL.out]; rfl, rfl⟩
  omega
end Go.Proofs.YtbklgijndjpgoaaDoor
/-
  strings.SplitSeq at a slash: the iterator's contract. It stores into its captured text.
-/
namespace Go.Proofs.YtbklgijndjpgoaaDoor
open Go.RowKit Go.Shelf
set_option maxRecDepth 100000
attribute [local go_sem] Oper.semAt_some

/-- What stands between slashes. -/
def splitL : List UInt8 → List (List UInt8)
  | [] => [[]]
  | c :: r => if c == 47 then [] :: splitL r else match splitL r with
    | [] => [[c]]
    | h :: t => (c :: h) :: t

theorem splitL_ne (l : List UInt8) : splitL l ≠ [] := by
  cases l with
  | nil => simp [splitL]
  | cons c r =>
    unfold splitL
    split
    · simp
    · split <;> simp

theorem splitL_none : ∀ l : List UInt8, Lib.indexByte l 47 = -1 → splitL l = [l]
  | [], _ => rfl
  | c :: r, h => by
    unfold Lib.indexByte at h
    split at h
    · omega
    · rename_i hc
      have hr : Lib.indexByte r 47 = -1 := by
        split at h
        · rename_i h1; simpa using h1
        · have := Lib.indexByte_ge r 47; omega
      unfold splitL
      rw [if_neg hc, splitL_none r hr]

theorem splitL_some : ∀ (l : List UInt8) (o : Nat), Lib.indexByte l 47 = o → splitL l = l.take o :: splitL (l.drop (o + 1)) ∧ o < l.length
  | [], o, h => by unfold Lib.indexByte at h; omega
  | c :: r, o, h => by
    unfold Lib.indexByte at h
    split at h
    · rename_i hc
      obtain rfl : o = 0 := by omega
      unfold splitL
      rw [if_pos hc]
      simp
      cases r <;> simp [splitL]
    · rename_i hc
      split at h
      · omega
      · rename_i h1
        have hge := Lib.indexByte_ge r 47
        obtain ⟨o', ho⟩ : ∃ o' : Nat, Lib.indexByte r 47 = o' := ⟨(Lib.indexByte r 47).toNat, by simp at h1; omega⟩
        obtain rfl : o = o' + 1 := by omega
        obtain ⟨e, hl⟩ := splitL_some r o' ho
        constructor
        · rw [splitL.eq_def]
          simp only [hc, if_false, Bool.false_eq_true, e]
          simp
        · simp; omega

def boxLen (w : World) (b : Nat) : Nat := match w.cell? ⟨b, 0, none⟩ with | some (.string t) => t.size | _ => 0
theorem boxLen_eq {w : World} {b : Nat} {t : ByteArray} (h : w.cell? ⟨b, 0, none⟩ = some (.string t)) : boxLen w b = t.size := by unfold boxLen; rw [h]

set_option maxRecDepth 100000 in
set_option maxHeartbeats 2000000 in
theorem split_seq (n : Nat) (bs bp bv : Nat) (s : ByteArray) (w : World) (hss : (s.size : Int) ≤ 9223372036854775800) (hn1 : bs ≠ bp) (hn2 : bs ≠ bv) (l1 : bs < w.heap.size) (l2 : bp < w.heap.size) (l3 : bv < w.heap.size)
    (c1 : w.heap[bs]? = some (.cells #[.string s] 9 (0, 0))) (c2 : w.heap[bp]? = some (.cells #[.string ⟨#[47]⟩] 9 (0, 0))) (c3 : w.heap[bv]? = some (.cells #[.int .i64 0] 3 (0, 0))) :
    SeqT Fence.wide n Tryd.prog 89 #[.pointer (some ⟨bp, 0, none⟩), .pointer (some ⟨bs, 0, none⟩), .pointer (some ⟨bv, 0, none⟩)] (fun x : ByteArray => #[.string x]) [bs, bp, bv]
      (fun xs => xs.map toL = splitL (toL s)) (fun pre => pre.map toL <+: splitL (toL s)) w := by
  intro l J Jx W hW hJ hJx hY h0
  have hJ := hJ W.heap.size (Nat.le_refl _)
  have hY := fun pre x W1 => hY W.heap.size pre x W1 (Nat.le_refl _)
  have h0 := h0 W.heap.size (Nat.le_refl _)
  refine (CallsIn.mono ?_ (fun e W' (h : (∃ v, e = Ending.returned v) ∧ ((∃ xs : List ByteArray, xs.map toL = splitL (toL s) ∧ J W.heap.size xs W') ∨ (∃ pre : List ByteArray, pre.map toL <+: splitL (toL s) ∧ Jx W.heap.size pre W'))) => ⟨h.1, W.heap.size, Nat.le_refl _, h.2⟩))
  have k1 : W.heap[bs]? = some (.cells #[.string s] 9 (0, 0)) := (hW.block _ l1).trans c1
  have k2 : W.heap[bp]? = some (.cells #[.string ⟨#[47]⟩] 9 (0, 0)) := (hW.block _ l2).trans c2
  have k3 : W.heap[bv]? = some (.cells #[.int .i64 0] 3 (0, 0)) := (hW.block _ l3).trans c3
  clear c1 c2 c3 hW l1 l2 l3 hJx
  have d1 : W.cell? ⟨bs, 0, none⟩ = some (.string s) := cell_of_row _ _ _ _ _ _ k1
  have d2 : W.cell? ⟨bp, 0, none⟩ = some (.string ⟨#[47]⟩) := cell_of_row _ _ _ _ _ _ k2
  have d3 : W.cell? ⟨bv, 0, none⟩ = some (.int .i64 0) := cell_of_row _ _ _ _ _ _ k3
  refine callsIn_of_wp Tryd.func89 rfl trivial ?_ rfl
  simp only [Tryd.ntmps89, List.size_toArray, List.length_cons, List.length_nil, Nat.reduceAdd, Nat.reduceSub, Array.replicate_succ, Array.replicate_zero, List.push_toArray, List.append_toArray, List.nil_append, List.cons_append]
  gi_wp2
  gi_loopw [7] (fun _ wr => ∃ (pre : List ByteArray) (t : ByteArray), wr.heap[bs]? = some (.cells #[.string t] 9 (0, 0)) ∧ wr.heap[bp]? = some (.cells #[.string ⟨#[47]⟩] 9 (0, 0)) ∧ wr.heap[bv]? = some (.cells #[.int .i64 0] 3 (0, 0)) ∧ Hid (pre.map toL ++ splitL (toL t) = splitL (toL s)) ∧ t.size ≤ s.size ∧ W.heap.size ≤ wr.heap.size ∧ J W.heap.size pre wr) (fun _ wr => boxLen wr bs)
  case atStart => exact ⟨[], s, k1, k2, k3, hide rfl, Nat.le_refl _, Nat.le_refl _, h0⟩
  case round =>
    obtain ⟨pre, t, e1, e2, e3, HP, hts, hsz, hj⟩ := hrel
    have f1 : wr.cell? ⟨bs, 0, none⟩ = some (.string t) := cell_of_row _ _ _ _ _ _ e1
    have f2 : wr.cell? ⟨bp, 0, none⟩ = some (.string ⟨#[47]⟩) := cell_of_row _ _ _ _ _ _ e2
    have f3 : wr.cell? ⟨bv, 0, none⟩ = some (.int .i64 0) := cell_of_row _ _ _ _ _ _ e3
    have z1 : wr.frozen? ⟨bs, 0, none⟩ = false := frozen_of_row _ _ _ _ _ e1
    clear d1 d2 d3 k1 k2 k3
    by_cases hi : Lib.indexByte t.data.toList 47 = -1
    · have hs1 := splitL_none _ hi
      have HE := hide (show (pre ++ [t]).map toL = splitL (toL s) by rw [← HP.out, List.map_append, show splitL (toL t) = [toL t] from hs1]; rfl)
      obtain ⟨fn, tmps, assign, body, hy, hR⟩ := hY pre t wr hsz hj (by rw [HE.out]; exact List.prefix_refl _)
      have HR := hide hR
      clear hY hR
      gi_wp2_with fail
      refine ⟨trivial, fun h => (by cases h), (callsIn_wide.2 (index_any t 47 _)).mono ?_⟩
      rintro e w' ⟨rfl, rfl⟩
      rw [hi]
      gi_wp2_with fail
      refine ⟨fun h => (by cases h), HR.out.mono ?_⟩
      rintro e W' (⟨rfl, hJ', hk⟩ | ⟨rfl, hJx', hk⟩)
      · gi_wp2
        go_end0
        exact ⟨⟨_, rfl⟩, .inl ⟨pre ++ [t], HE.out, hJ'⟩⟩
      · gi_wp2
        go_end0
        exact ⟨⟨_, rfl⟩, .inr ⟨pre ++ [t], by rw [HE.out]; exact List.prefix_refl _, hJx'⟩⟩
    · have hge := Lib.indexByte_ge t.data.toList 47
      obtain ⟨o, ho⟩ : ∃ o : Nat, Lib.indexByte t.data.toList 47 = o := ⟨(Lib.indexByte t.data.toList 47).toNat, by omega⟩
      obtain ⟨hs1, hol⟩ := splitL_some _ o ho
      rw [← Lib.size_eq] at hol
      have hx : toL (t.extract 0 o) = t.data.toList.take o := by unfold toL; rw [Lib.extract_data]; simp
      have hy2 : toL (t.extract (o + 1) t.size) = t.data.toList.drop (o + 1) := by
        unfold toL
        rw [Lib.extract_data, List.take_of_length_le (by simp)]
      have HE := hide (show (pre ++ [t.extract 0 o]).map toL ++ splitL (toL (t.extract (o + 1) t.size)) = splitL (toL s) by
        rw [← HP.out, List.map_append, hy2, show splitL (toL t) = t.data.toList.take o :: splitL (t.data.toList.drop (o + 1)) from hs1, ← hx]
        simp)
      obtain ⟨fn, tmps, assign, body, hy, hR⟩ := hY pre (t.extract 0 o) wr hsz hj ⟨_, HE.out⟩
      have HR := hide hR
      have ho1 : (o : Int) < t.size := by omega
      have ho2 : (o : Int) ≤ 9223372036854775800 := by omega
      have hsz2 : (t.extract (o + 1) t.size).size < t.size := by simp [ByteArray.size_extract]; omega
      have HZ := hide hsz2
      have HO := hide ho
      clear hR hi hge hs1 hx hy2 hsz2 ho
      gi_wp2_with fail
      refine ⟨trivial, fun h => (by cases h), (callsIn_wide.2 (index_any t 47 _)).mono ?_⟩
      rintro e w' ⟨rfl, rfl⟩
      rw [HO.out]
      gi_wp2_with fail
      refine ⟨fun h => (by cases h), HR.out.mono ?_⟩
      rintro e W' (⟨rfl, hJ', hk⟩ | ⟨rfl, hJx', hk⟩)
      · have g1 := (hk.2 bs (.inl (by simp))).trans e1
        have g2 := (hk.2 bp (.inl (by simp))).trans e2
        have g3 := (hk.2 bv (.inl (by simp))).trans e3
        have p1 : W'.cell? ⟨bs, 0, none⟩ = some (.string t) := cell_of_row _ _ _ _ _ _ g1
        have p2 : W'.cell? ⟨bp, 0, none⟩ = some (.string ⟨#[47]⟩) := cell_of_row _ _ _ _ _ _ g2
        have q1 : W'.frozen? ⟨bs, 0, none⟩ = false := frozen_of_row _ _ _ _ _ g1
        gi_wp2
        go_roundw
        case rel => exact ⟨pre ++ [t.extract 0 o], t.extract (o + 1) t.size, heap_setCell_same _ _ _ _ _ _ g1, (heap_setCell_other _ _ _ _ (fun e => hn1 e.symm)).trans g2, (heap_setCell_other _ _ _ _ (fun e => hn2 e.symm)).trans g3, HE, by have := HZ.out; omega, by have := hk.1; simp [World.setCell]; omega,
          hJ _ W' _ (some bs) hJ' (grownBy_setCell _ _ _) (fun r e => by cases e; exact .inl (by simp))⟩
        case measure => rw [boxLen_eq (cell_of_row _ _ _ _ _ _ (heap_setCell_same _ _ _ _ _ _ g1)), boxLen_eq f1]; exact HZ.out
      · gi_wp2
        refine bodyPost_ret (results_none rfl _ _ _) rfl ?_
        exact ⟨⟨_, rfl⟩, .inr ⟨pre ++ [t.extract 0 o], ⟨_, HE.out⟩, hJx'⟩⟩
end Go.Proofs.YtbklgijndjpgoaaDoor
/-
  What paths.Name answers.
-/
namespace Go.Proofs.YtbklgijndjpgoaaDoor
open Go.RowKit
set_option maxRecDepth 100000

def nameL (L : List UInt8) : Bool := !L.isEmpty && decide (L.length ≤ 12) && !(L == [46]) && !(L == [46, 46]) && L.all (fun c => letter c.toNat)

theorem nameL_snoc (s : ByteArray) (k : Nat) (h : k < s.size) : (s.data.toList.take (k + 1)).all (fun c => letter c.toNat) = ((s.data.toList.take k).all (fun c => letter c.toNat) && letter s[k].toNat) := by
  have h' : k < s.data.toList.length := by simpa using h
  have e : s.data.toList.take (k + 1) = s.data.toList.take k ++ [s.data.toList[k]] := List.take_succ_eq_append_getElem h'
  rw [e, List.all_append]
  congr 1
  show (letter s[k].toNat && true) = _
  simp

theorem name_long (s : ByteArray) (w : World) (h : (12 : Int) < s.size) (h0 : s.toList.isEmpty = false) :
    Calls Tryd.prog 74 #[.string s] w fun e w' => e = .returned (.bool (nameL s.data.toList)) ∧ w = w' := by
    have HL := hide (show nameL s.data.toList = false by
      have : ¬ s.data.toList.length ≤ 12 := by rw [← Lib.size_eq]; omega
      unfold nameL; simp only [this]; simp)
    go_enter Tryd.func74, Tryd.ntmps74
    go_wp2
    go_ret
    exact ⟨by rw [HL.out]; rfl, rfl⟩

set_option maxHeartbeats 800000 in
theorem name_any (s : ByteArray) (w : World) :
    Calls Tryd.prog 74 #[.string s] w fun e w' => e = .returned (.bool (nameL s.data.toList)) ∧ w = w' := by
  cases h0 : s.toList.isEmpty with
  | true =>
    have HL := hide (show nameL s.data.toList = false by unfold nameL; rw [← Lib.toList_data, h0]; rfl)
    go_enter Tryd.func74, Tryd.ntmps74
    go_wp2
    go_ret
    exact ⟨by rw [HL.out]; rfl, rfl⟩
  | false =>
  by_cases h1 : (12 : Int) < s.size
  · exact name_long s w h1 h0
  cases h2 : (s.toList == [46]) with
  | true =>
    have HL := hide (show nameL s.data.toList = false by unfold nameL; rw [← Lib.toList_data, h2]; simp)
    go_enter Tryd.func74, Tryd.ntmps74
    go_wp2
    go_ret
    exact ⟨by rw [HL.out]; rfl, rfl⟩
  | false =>
  cases h3 : (s.toList == [46, 46]) with
  | true =>
    have HL := hide (show nameL s.data.toList = false by unfold nameL; rw [← Lib.toList_data, h3]; simp)
    go_enter Tryd.func74, Tryd.ntmps74
    go_wp2
    go_ret
    exact ⟨by rw [HL.out]; rfl, rfl⟩
  | false =>
    have hb : nameL s.data.toList = s.data.toList.all (fun c => letter c.toNat) := by
      have hl : decide (s.data.toList.length ≤ 12) = true := by rw [← Lib.size_eq]; simp; omega
      unfold nameL
      rw [hl]
      rw [← Lib.toList_data, h0, h2, h3]
      simp
    have HB := hide hb
    clear hb
    go_enter Tryd.func74, Tryd.ntmps74
    go_wp2
    go_loop [21] (fun i => ∃ k : Nat, k ≤ s.size ∧ i = .int .i64 k ∧ Hid ((s.data.toList.take k).all (fun c => letter c.toNat) = true)) (fun i => s.size - (intOf i).toNat)
    case atStart => exact ⟨0, Nat.zero_le _, rfl, by simp [Hid]⟩
    case round =>
      obtain ⟨k, hk, rfl, HA⟩ := hrel
      by_cases hlt : (k : Int) < s.size
      · have hlt' : k < s.size := by omega
        have hsn := nameL_snoc s k hlt'
        rw [HA.out, Bool.true_and] at hsn
        cases hc : letter s[k].toNat with
        | true =>
          rw [hc] at hsn
          have HS := hide hsn
          clear hsn
          go_wp2_with (go_at_call 84; refine (ofName_any _ _).mono ?_; rintro e w' ⟨rfl, rfl⟩; rw [hc])
          exact ⟨⟨k + 1, by omega, by go_num, HS⟩, by simp [intOf]; omega⟩
        | false =>
          have HF := hide (show nameL s.data.toList = false by
            rw [HB.out, List.all_eq_false]
            exact ⟨s[k], by rw [show s[k] = s.data.toList[k]'(by simpa using hlt') from rfl]; exact List.getElem_mem _, by rw [hc]; simp⟩)
          clear hsn
          go_wp2_with (go_at_call 84; refine (ofName_any _ _).mono ?_; rintro e w' ⟨rfl, rfl⟩; rw [hc])
          go_ret
          exact ⟨by rw [HF.out]; rfl, rfl⟩
      · have HF := hide (show nameL s.data.toList = true by
          have := HA.out
          rw [List.take_of_length_le (by simp; omega)] at this
          rw [HB.out, this])
        go_wp2
        go_ret
        exact ⟨by rw [HF.out]; rfl, rfl⟩
end Go.Proofs.YtbklgijndjpgoaaDoor
/-
  What paths.Right answers.
-/
namespace Go.Proofs.YtbklgijndjpgoaaDoor
open Go.RowKit Go.Shelf
set_option maxRecDepth 100000

/-- A right path. -/
def rightL (p : List UInt8) : Bool := p.isEmpty || ((splitL p).all nameL && decide ((splitL p).length ≤ 16))

set_option maxHeartbeats 400000 in
theorem splitSeq1_any (s : ByteArray) (w : World) :
    Calls Tryd.prog 83 #[.string s, .string ⟨#[47]⟩, .int .i64 0] w fun e w' => e = .returned (.func (.func 89) #[] #[.pointer (some ⟨w.heap.size + 1, 0, none⟩), .pointer (some ⟨w.heap.size, 0, none⟩), .pointer (some ⟨w.heap.size + 1 + 1, 0, none⟩)]) ∧
      w' = ((w.alloc (.cells #[.string s] 9)).alloc (.cells #[.string ⟨#[47]⟩] 9)).alloc (.cells #[.int .i64 0] 3) := by
  go_enter Tryd.func83, Tryd.ntmps83
  go_wp2
  go_ret
  exact ⟨rfl, rfl⟩

set_option maxHeartbeats 400000 in
theorem splitSeq_any (s : ByteArray) (w : World) :
    Calls Tryd.prog 73 #[.string s, .string ⟨#[47]⟩] w fun e w' => e = .returned (.func (.func 89) #[] #[.pointer (some ⟨w.heap.size + 1, 0, none⟩), .pointer (some ⟨w.heap.size, 0, none⟩), .pointer (some ⟨w.heap.size + 1 + 1, 0, none⟩)]) ∧
      w' = ((w.alloc (.cells #[.string s] 9)).alloc (.cells #[.string ⟨#[47]⟩] 9)).alloc (.cells #[.int .i64 0] 3) := by
  go_enter Tryd.func73, Tryd.ntmps73
  go_wp2_with fail
  refine (splitSeq1_any s _).mono ?_
  rintro e w1 ⟨rfl, rfl⟩
  go_wp2
  go_ret
  exact ⟨rfl, rfl⟩

theorem heap_alloc_get (w : World) (o : Obj) (k : Nat) : (w.alloc o).heap[k]? = if k = w.heap.size then some o else w.heap[k]? := by
  show (w.heap.push o)[k]? = _
  rw [Array.getElem?_push]

attribute [local go_sem] Oper.semAt_some
set_option maxRecDepth 100000 in
set_option maxHeartbeats 2000000 in
theorem right_in (p : ByteArray) (w : World) (hp : (p.size : Int) ≤ 9223372036854775800) (hne : p.toList.isEmpty = false) :
    CallsIn Fence.wide 5 Tryd.prog 59 #[.string p] w fun e w' => e = .returned (.bool (rightL p.data.toList)) ∧ Below w.heap.size w w' := by
  refine callsIn_of_wp_marks Tryd.func59 rfl trivial ?_ rfl
  simp only [Tryd.ntmps59, List.size_toArray, List.length_cons, List.length_nil, Nat.reduceAdd, Nat.reduceSub, Array.replicate_succ, Array.replicate_zero, List.push_toArray, List.append_toArray, List.nil_append, List.cons_append]
  gi_wp2_with fail
  refine ⟨trivial, (callsIn_wide.2 (splitSeq_any p _)).mono ?_⟩
  rintro e w1 ⟨rfl, hw1⟩
  have hz1 : w1.heap.size = w.heap.size + 5 := by rw [hw1]; simp
  have hB1 : Below w.heap.size w w1 := by rw [hw1]; exact (((((Below.refl _ w).alloc (Nat.le_refl _) _).alloc (by simp) _).alloc (by simp; omega) _).alloc (by simp; omega) _).alloc (by simp; omega) _
  have r0 : w1.heap[w.heap.size]? = some (.cells #[.bool false] 4 (0, 0)) := by
    rw [hw1]
    rw [Below.heap_alloc _ _ _ (by simp <;> omega), Below.heap_alloc _ _ _ (by simp <;> omega), Below.heap_alloc _ _ _ (by simp <;> omega), Below.heap_alloc _ _ _ (by simp <;> omega)]
    exact World.alloc_heap_new _ _
  have r1 : w1.heap[w.heap.size + 1]? = some (.cells #[.int .i64 0] 3 (0, 0)) := by
    rw [hw1]
    rw [Below.heap_alloc _ _ _ (by simp <;> omega), Below.heap_alloc _ _ _ (by simp <;> omega), Below.heap_alloc _ _ _ (by simp <;> omega)]
    have h := World.alloc_heap_new (w.alloc (.cells #[.bool false] 4)) (Obj.cells #[.int .i64 0] 3)
    simp only [World.size_alloc] at h
    exact h
  have r2 : w1.heap[w.heap.size + 2]? = some (.cells #[.string p] 9 (0, 0)) := by
    rw [hw1]
    rw [Below.heap_alloc _ _ _ (by simp <;> omega), Below.heap_alloc _ _ _ (by simp <;> omega)]
    have h := World.alloc_heap_new ((w.alloc (.cells #[.bool false] 4)).alloc (.cells #[.int .i64 0] 3)) (Obj.cells #[.string p] 9)
    simp only [World.size_alloc] at h
    exact h
  have r3 : w1.heap[w.heap.size + 3]? = some (.cells #[.string ⟨#[47]⟩] 9 (0, 0)) := by
    rw [hw1]
    rw [Below.heap_alloc _ _ _ (by simp <;> omega)]
    have h := World.alloc_heap_new (((w.alloc (.cells #[.bool false] 4)).alloc (.cells #[.int .i64 0] 3)).alloc (.cells #[.string p] 9)) (Obj.cells #[.string ⟨#[47]⟩] 9)
    simp only [World.size_alloc] at h
    exact h
  have r4 : w1.heap[w.heap.size + 4]? = some (.cells #[.int .i64 0] 3 (0, 0)) := by
    rw [hw1]
    have h := World.alloc_heap_new ((((w.alloc (.cells #[.bool false] 4)).alloc (.cells #[.int .i64 0] 3)).alloc (.cells #[.string p] 9)).alloc (.cells #[.string ⟨#[47]⟩] 9)) (Obj.cells #[.int .i64 0] 3)
    simp only [World.size_alloc] at h
    exact h
  clear hw1
  have e2 : ((w.alloc (Obj.cells #[Value.bool false] 4)).alloc (Obj.cells #[Value.int IntKind.i64 0] 3)).heap.size = w.heap.size + 2 := by simp
  rw [e2]
  gi_wp2_with fail
  refine wpIn_rangeT (α := ByteArray) rfl (by omega) (gf := 89) (lb := #[.pointer (some ⟨w.heap.size + 2 + 1, 0, none⟩), .pointer (some ⟨w.heap.size + 2, 0, none⟩), .pointer (some ⟨w.heap.size + 2 + 1 + 1, 0, none⟩)]) rfl trivial
    (enters_of Tryd.func89 (by kernel_rfl) rfl) (L := [w.heap.size + 2, w.heap.size + 3, w.heap.size + 4]) (by intro k hk; simp at hk; omega)
    (split_seq 4 (w.heap.size + 2) (w.heap.size + 3) (w.heap.size + 4) p w1 hp (by omega) (by omega) (by omega) (by omega) (by omega) r2 r3 r4) (fun _ => rfl)
    (fun X pre W => (pre.map toL).all nameL = true ∧ pre.length ≤ 16 ∧ W.heap[w.heap.size]? = some (.cells #[.bool false] 4 (0, 0)) ∧ W.heap[w.heap.size + 1]? = some (.cells #[.int .i64 (pre.length : Nat)] 3 (0, 0)) ∧ Below w.heap.size w W)
    (fun X c pre W => c = .ret ∧ ((pre.map toL).all nameL && decide (pre.length ≤ 16)) = false ∧ W.heap[w.heap.size]? = some (.cells #[.bool false] 4 (0, 0)) ∧ Below w.heap.size w W)
    ?hI ?hIx (fun X hX => ⟨rfl, by simp, r0, r1, hB1⟩)
    (fun x => { tmps := #[.string p, undef, .pointer (some ⟨w.heap.size, 0, none⟩), .pointer (some ⟨w.heap.size + 1, 0, none⟩), .string x, .string p, .bool false, .string p, .func (.func 89) #[] #[.pointer (some ⟨w.heap.size + 2 + 1, 0, none⟩), .pointer (some ⟨w.heap.size + 2, 0, none⟩), .pointer (some ⟨w.heap.size + 2 + 1 + 1, 0, none⟩)], .string x, undef, undef, undef, undef, undef, undef, undef, undef, undef], defers := [] }) ?assign ?body ?done ?stop
  case hI =>
    rintro X hX pre A B row ⟨h1, h2, h3, h4, h5⟩ hg hr
    have ne : ∀ k, k < w.heap.size + 2 → ¬ row = some k := fun k hk e => by
      rcases hr k e with h | h
      · simp at h; omega
      · omega
    refine ⟨h1, h2, (hg.block _ (Array.getElem?_eq_some_iff.1 h3).1 (fun e => ne _ (by omega) e.symm)).trans h3, (hg.block _ (Array.getElem?_eq_some_iff.1 h4).1 (fun e => ne _ (by omega) e.symm)).trans h4, h5.grown hg h5.size (fun k e => Nat.le_of_not_lt (fun hk => ne k (by omega) e))⟩
  case hIx =>
    rintro X c hX pre A B row ⟨h1, h2, h3, h5⟩ hg hr
    have ne : ∀ k, k < w.heap.size + 2 → ¬ row = some k := fun k hk e => by
      rcases hr k e with h | h
      · simp at h; omega
      · omega
    refine ⟨h1, h2, (hg.block _ (Array.getElem?_eq_some_iff.1 h3).1 (fun e => ne _ (by omega) e.symm)).trans h3, h5.grown hg h5.size (fun k e => Nat.le_of_not_lt (fun hk => ne k (by omega) e))⟩
  case assign =>
    intro l x W K hK
    gi_wp2
    exact hK
  case body =>
    rintro X l pre x W hX hXW ⟨h1, h2, h3, h4, h5⟩ hlen
    have c4 : W.cell? ⟨w.heap.size + 1, 0, none⟩ = some (.int .i64 (pre.length : Nat)) := cell_of_row _ _ _ _ _ _ h4
    have z4 : W.frozen? ⟨w.heap.size + 1, 0, none⟩ = false := frozen_of_row _ _ _ _ _ h4
    have c3 : W.cell? ⟨w.heap.size, 0, none⟩ = some (.bool false) := cell_of_row _ _ _ _ _ _ h3
    have z3 : W.frozen? ⟨w.heap.size, 0, none⟩ = false := frozen_of_row _ _ _ _ _ h3
    have u3 : ∀ v : Value, (W.setCell ⟨w.heap.size + 1, 0, none⟩ v).heap[w.heap.size]? = some (.cells #[.bool false] 4 (0, 0)) := fun v => (heap_setCell_other _ _ _ _ (by simp)).trans h3
    have u4 : ∀ v : Value, (W.setCell ⟨w.heap.size + 1, 0, none⟩ v).heap[w.heap.size + 1]? = some (.cells #[v] 3 (0, 0)) := fun v => heap_setCell_same _ _ _ _ _ _ h4
    have u5 : ∀ v : Value, Below w.heap.size w (W.setCell ⟨w.heap.size + 1, 0, none⟩ v) := fun v => h5.setCell (p := ⟨w.heap.size + 1, 0, none⟩) (by simp) _
    have u6 : ∀ v : Value, Lies (Its [w.heap.size + 2, w.heap.size + 3, w.heap.size + 4] w1.heap.size X) W (W.setCell ⟨w.heap.size + 1, 0, none⟩ v) := fun v =>
      .grown (grownBy_setCell _ _ _) (fun k hk => by
        have := h5.size
        have := h5.size
        rcases hk with hk | hk
        · have := hB1.size; simp at hk; have := (Array.getElem?_eq_some_iff.1 h4).1; omega
        · omega) (fun r e hk => by
        cases e
        rcases hk with hk | hk
        · simp at hk
        · simp at hk; omega)
    have u7 : ∀ v u : Value, Lies (Its [w.heap.size + 2, w.heap.size + 3, w.heap.size + 4] w1.heap.size X) W ((W.setCell ⟨w.heap.size + 1, 0, none⟩ v).setCell ⟨w.heap.size, 0, none⟩ u) := fun v u =>
      (u6 v).trans (.grown (grownBy_setCell _ _ _) (fun k hk => by
        have := (u6 v).1
        have := h5.size
        rcases hk with hk | hk
        · have := hB1.size; simp at hk; have := (Array.getElem?_eq_some_iff.1 (u4 v)).1; omega
        · omega) (fun r e hk => by
        cases e
        rcases hk with hk | hk
        · simp at hk
        · simp at hk; omega))
    have u8 : ∀ v u : Value, ((W.setCell ⟨w.heap.size + 1, 0, none⟩ v).setCell ⟨w.heap.size, 0, none⟩ u).heap[w.heap.size]? = some (.cells #[u] 4 (0, 0)) := fun v u => heap_setCell_same _ _ _ _ _ _ (u3 v)
    have u9 : ∀ v u : Value, Below w.heap.size w ((W.setCell ⟨w.heap.size + 1, 0, none⟩ v).setCell ⟨w.heap.size, 0, none⟩ u) := fun v u => (u5 v).setCell (p := ⟨w.heap.size, 0, none⟩) (by simp) _
    have v3 : ∀ v : Value, (W.setCell ⟨w.heap.size + 1, 0, none⟩ v).cell? ⟨w.heap.size, 0, none⟩ = some (.bool false) := fun v => cell_of_row _ _ _ _ _ _ (u3 v)
    have w3 : ∀ v : Value, (W.setCell ⟨w.heap.size + 1, 0, none⟩ v).frozen? ⟨w.heap.size, 0, none⟩ = false := fun v => frozen_of_row _ _ _ _ _ (u3 v)
    by_cases hlt : pre.length < 16
    · have HL := hide hlt
      have g1 : ((pre.length : Nat) : Int) + 1 ≤ 16 := by omega
      have g2 : ¬ (((pre.length : Nat) : Int) + 1 > 16) := by omega
      have g3 : (0 : Int) ≤ ((pre.length : Nat) : Int) := by omega
      clear hlt hlen c3 z3
      have hlE : (((pre ++ [x]).length : Nat) : Int) = ((pre.length : Nat) : Int) + 1 := by simp
      gi_wp2_with fail
      refine ⟨trivial, (CallsIn.inRound l (callsIn_wide.2 (name_any x _))).mono ?_⟩
      rintro e w2 ⟨rfl, rfl⟩
      cases hn : nameL x.data.toList with
      | true =>
        gi_wp2_with fail
        refine ⟨u6 _, ?_, by have := HL.out; simp; omega, u3 _, ?_, u5 _⟩
        · rw [List.map_append, List.all_append, h1]; simp [toL, hn]
        · rw [hlE]; exact u4 _
      | false =>
        gi_wp2_with fail
        refine ⟨u7 _ _, rfl, ?_, u8 _ _, u9 _ _⟩
        rw [List.map_append, List.all_append]; simp [toL, hn]
    · have g2 : pre.length = 16 := by omega
      rw [g2] at c4
      have HL := hide g2
      clear hlt hlen g2 c3 z3
      gi_wp2_with fail
      refine ⟨trivial, ?_⟩
      gi_wp2_with fail
      refine ⟨u7 _ _, rfl, ?_, u8 _ _, u9 _ _⟩
      rw [Bool.and_eq_false_iff]
      right
      simp [HL.out]
  case done =>
    rintro X D xs W hX hD hDX hS ⟨h1, h2, h3, h4, h5⟩ hK
    have c3 : W.cell? ⟨w.heap.size, 0, none⟩ = some (.bool false) := cell_of_row _ _ _ _ _ _ h3
    have z3 : W.frozen? ⟨w.heap.size, 0, none⟩ = false := frozen_of_row _ _ _ _ _ h3
    have hR : rightL p.data.toList = true := by
      unfold rightL
      rw [show splitL p.data.toList = xs.map toL from hS.symm, h1]
      simp [h2]
    gi_wp2_with fail
    have hK' : (W.setCell ⟨w.heap.size, 0, none⟩ (.bool true)).heap[D]? = some (.deferred (some [])) := (heap_setCell_other _ _ _ _ (by simp; omega)).trans hK
    refine ⟨by simp, .inl ⟨_, _, rfl, run_takeDeferred hK', ?_⟩⟩
    have hc5 : ((W.setCell ⟨w.heap.size, 0, none⟩ (.bool true)).putObj D (.deferred none)).cell? ⟨w.heap.size, 0, none⟩ = some (.bool true) :=
      cell_of_row _ _ _ _ _ _ ((World.putObj_heap_other (by omega)).trans (heap_setCell_same _ _ _ _ _ _ h3))
    refine ⟨.bool true, ?_, by rw [hR], ?_⟩
    · simp [results, Tryd.f59, go_sem, hc5]
    · exact (h5.setCell (p := ⟨w.heap.size, 0, none⟩) (by simp) _).grown (grownBy_putObj' _ D (.deferred none)) (by have := h5.size; simp [World.setCell]; omega) (fun r e => by cases e; omega)
  case stop =>
    rintro X D c pre W hX hD hDX hS ⟨rfl, h2, h3, h5⟩ hK
    have hR : rightL p.data.toList = false := by
      obtain ⟨t, ht⟩ := hS
      have hp : p.data.toList.isEmpty = false := by rw [← Lib.toList_data]; exact hne
      unfold rightL
      rw [hp, show splitL p.data.toList = pre.map toL ++ t from ht.symm]
      rcases Bool.and_eq_false_iff.1 h2 with h | h
      · rw [List.all_append, h]; rfl
      · have h := of_decide_eq_false h
        rw [Bool.false_or, Bool.and_eq_false_iff]
        right
        simp; omega
    gi_wp2_with fail
    refine ⟨by simp, .inl ⟨_, _, rfl, run_takeDeferred hK, ?_⟩⟩
    have hc5 : (W.putObj D (.deferred none)).cell? ⟨w.heap.size, 0, none⟩ = some (.bool false) :=
      cell_of_row _ _ _ _ _ _ ((World.putObj_heap_other (by omega)).trans h3)
    refine ⟨.bool false, ?_, by rw [hR], ?_⟩
    · simp [results, Tryd.f59, go_sem, hc5]
    · exact h5.grown (grownBy_putObj' _ D (.deferred none)) h5.size (fun r e => by cases e; omega)

set_option maxHeartbeats 400000 in
/-- paths.Right, at every text. -/
theorem right_any (p : ByteArray) (w : World) (hp : (p.size : Int) ≤ 9223372036854775800) :
    Calls Tryd.prog 59 #[.string p] w fun e w' => e = .returned (.bool (rightL p.data.toList)) ∧ Below w.heap.size w w' := by
  cases hne : p.toList.isEmpty with
  | false => exact callsIn_wide.1 (right_in p w hp hne)
  | true =>
    have hR : rightL p.data.toList = true := by unfold rightL; rw [← Lib.toList_data, hne]; rfl
    go_enter Tryd.func59, Tryd.ntmps59
    go_wp2
    have hc : (w.alloc (Obj.cells #[Value.bool true] 4)).cell? ⟨w.heap.size, 0, none⟩ = some (.bool true) := cell_of_row _ _ _ _ _ _ (World.alloc_heap_new _ _)
    refine bodyPost_ret (v := .bool true) (by simp [results, Tryd.f59, go_sem, hc]) rfl ?_
    rw [hR]
    exact ⟨rfl, (Below.refl _ w).alloc (Nat.le_refl _) _⟩
end Go.Proofs.YtbklgijndjpgoaaDoor
/-
  A path's names; what SplitSeq leaves.
-/
namespace Go.Proofs.YtbklgijndjpgoaaDoor
open Go.RowKit Go.Shelf
set_option maxRecDepth 100000

theorem roundIn_wide {n m k : Nat} {P : Program} {l : Nat} {f : FuncId} {tmps : Array Value} {assign body : Code} {w : World} {R : Ending → World → Prop}
    (h : RoundIn Fence.wide n P l f tmps assign body w R) : RoundIn (Fence.wide.inRound k) m P l f tmps assign body w R := ⟨trivial, fun c cs _ => h.2 c cs (room_wide _)⟩
theorem roundIn_any {n m : Nat} {P : Program} {l : Nat} {f : FuncId} {tmps : Array Value} {assign body : Code} {w : World} {R : Ending → World → Prop}
    (h : RoundIn Fence.wide n P l f tmps assign body w R) : RoundIn Fence.wide m P l f tmps assign body w R := ⟨trivial, fun c cs _ => h.2 c cs (room_wide _)⟩

theorem seqT_any {α : Type} {n m : Nat} {P : Program} {g : Nat} {lb : Array Value} {encs : α → Array Value} {L : List Nat} {S Sp : List α → Prop} {w : World}
    (h : SeqT Fence.wide n P g lb encs L S Sp w) : SeqT Fence.wide m P g lb encs L S Sp w := by
  intro l J Jx W hW hJ hJx hY h0
  refine callsIn_wide.2 (callsIn_wide.1 (h l J Jx W hW hJ hJx ?_ h0))
  intro X pre x W1 hX hX1 hj hl
  obtain ⟨fn, tmps, assign, body, hy, hR⟩ := hY X pre x W1 hX hX1 hj hl
  exact ⟨fn, tmps, assign, body, hy, roundIn_any hR⟩

/-- A path's names. -/
def namesL (p : List UInt8) : List (List UInt8) := if p.isEmpty || !rightL p then [] else splitL p

/-- What SplitSeq leaves: its three blocks. -/
theorem split_made (s : ByteArray) (w : World) (Q : Ending → World → Prop)
    (h : ∀ w1 : World, w1.heap.size = w.heap.size + 3 → Below w.heap.size w w1 → w1.heap[w.heap.size]? = some (.cells #[.string s] 9 (0, 0)) → w1.heap[w.heap.size + 1]? = some (.cells #[.string ⟨#[47]⟩] 9 (0, 0)) →
      w1.heap[w.heap.size + 2]? = some (.cells #[.int .i64 0] 3 (0, 0)) →
      Q (.returned (.func (.func 89) #[] #[.pointer (some ⟨w.heap.size + 1, 0, none⟩), .pointer (some ⟨w.heap.size, 0, none⟩), .pointer (some ⟨w.heap.size + 2, 0, none⟩)])) w1) :
    Calls Tryd.prog 73 #[.string s, .string ⟨#[47]⟩] w Q := by
  refine (splitSeq_any s w).mono ?_
  rintro e w1 ⟨rfl, hw1⟩
  refine h w1 (by rw [hw1]; simp) (by rw [hw1]; exact (((Below.refl _ w).alloc (Nat.le_refl _) _).alloc (by simp) _).alloc (by simp; omega) _) ?_ ?_ ?_
  · rw [hw1]
    rw [Below.heap_alloc _ _ _ (by simp <;> omega), Below.heap_alloc _ _ _ (by simp <;> omega)]
    exact World.alloc_heap_new _ _
  · rw [hw1]
    rw [Below.heap_alloc _ _ _ (by simp <;> omega)]
    have h := World.alloc_heap_new (w.alloc (.cells #[.string s] 9)) (Obj.cells #[.string ⟨#[47]⟩] 9)
    simp only [World.size_alloc] at h
    exact h
  · rw [hw1]
    have h := World.alloc_heap_new ((w.alloc (.cells #[.string s] 9)).alloc (.cells #[.string ⟨#[47]⟩] 9)) (Obj.cells #[.int .i64 0] 3)
    simp only [World.size_alloc] at h
    exact h

theorem namesL_len (p : List UInt8) : (namesL p).length ≤ 16 := by
  unfold namesL
  split
  · simp
  · rename_i h
    simp only [Bool.or_eq_true, Bool.not_eq_true', not_or, Bool.not_eq_true, Bool.not_eq_false] at h
    have h2 := h.2
    unfold rightL at h2
    rw [h.1, Bool.false_or, Bool.and_eq_true] at h2
    exact of_decide_eq_true h2.2
end Go.Proofs.YtbklgijndjpgoaaDoor
/-
  What stands between slashes, as a list: putting together again, prefixes, the order name by name.
-/
namespace Go.Proofs.YtbklgijndjpgoaaDoor
open Go.RowKit
set_option maxRecDepth 100000

/-- The names between slashes; none of the empty text. -/
def cutL (p : List UInt8) : List (List UInt8) := if p.isEmpty then [] else splitL p
/-- Names with slashes between. -/
def glueL : List (List UInt8) → List UInt8
  | [] => []
  | [x] => x
  | x :: y :: r => x ++ 47 :: glueL (y :: r)

theorem splitL_snoc : ∀ l : List UInt8, ∃ a x, splitL l = a ++ [x] ∧ splitL (l ++ [47]) = a ++ [x] ++ [[]] ∧ ∀ c : UInt8, (c == 47) = false → splitL (l ++ [c]) = a ++ [x ++ [c]]
  | [] => ⟨[], [], rfl, rfl, fun c h => by simp [splitL, h]⟩
  | d :: r => by
    obtain ⟨a, x, h0, h1, h2⟩ := splitL_snoc r
    by_cases hd : (d == 47) = true
    · refine ⟨[] :: a, x, by simp [splitL, hd, h0], by simp [splitL, hd, h1], fun c hc => by simp [splitL, hd, h2 c hc]⟩
    · have hd : (d == 47) = false := by simpa using hd
      cases a with
      | nil => exact ⟨[], d :: x, by simp [splitL, hd, h0], by simp [splitL, hd, h1], fun c hc => by simp [splitL, hd, h2 c hc]⟩
      | cons b t => exact ⟨(d :: b) :: t, x, by simp [splitL, hd, h0], by simp [splitL, hd, h1], fun c hc => by simp [splitL, hd, h2 c hc]⟩

theorem glue_cons (x : List UInt8) (r : List (List UInt8)) (h : r ≠ []) : glueL (x :: r) = x ++ 47 :: glueL r := by
  cases r with
  | nil => exact absurd rfl h
  | cons => rfl
theorem glue_split : ∀ l : List UInt8, glueL (splitL l) = l
  | [] => rfl
  | c :: r => by
    have ih := glue_split r
    by_cases hc : (c == 47) = true
    · have e : c = 47 := by simpa using hc
      unfold splitL
      rw [if_pos hc, glue_cons _ _ (splitL_ne r), ih, e]; rfl
    · unfold splitL
      rw [if_neg hc]
      cases hs : splitL r with
      | nil => exact absurd hs (splitL_ne r)
      | cons h t =>
        rw [hs] at ih
        cases t with
        | nil => simp [glueL] at ih ⊢; exact ih
        | cons y z => simp only [glueL] at ih ⊢; simp [ih]
theorem glue_cut (l : List UInt8) : glueL (cutL l) = l := by
  unfold cutL
  split
  · rename_i h; rw [List.isEmpty_iff.1 h]; rfl
  · exact glue_split l
theorem glue_append : ∀ (a r : List (List UInt8)), a ≠ [] → r ≠ [] → glueL (a ++ r) = glueL a ++ 47 :: glueL r
  | [], _, h, _ => absurd rfl h
  | [x], r, _, h => glue_cons x r h
  | x :: y :: t, r, _, h => by
    rw [List.cons_append, glue_cons _ _ (by simp), glue_append (y :: t) r (by simp) h, glue_cons x (y :: t) (by simp)]
    simp
theorem split_append : ∀ (t y : List UInt8), splitL (t ++ 47 :: y) = splitL t ++ splitL y
  | [], y => by simp [splitL]
  | c :: r, y => by
    have ih := split_append r y
    by_cases hc : (c == 47) = true
    · simp [splitL, hc, ih]
    · have hc : (c == 47) = false := by simpa using hc
      simp only [List.cons_append, splitL, hc, ih, Bool.false_eq_true, if_false]
      cases hs : splitL r with
      | nil => exact absurd hs (splitL_ne r)
      | cons h t => simp
theorem cut_ne (p : List UInt8) (h : p ≠ []) : cutL p = splitL p := by unfold cutL; rw [if_neg (by simpa using h)]
theorem cut_nil : cutL [] = [] := rfl
theorem right_cut (p : List UInt8) : rightL p = ((cutL p).all nameL && decide ((cutL p).length ≤ 16)) := by
  unfold rightL cutL
  split
  · rename_i h; rw [h]; rfl
  · rename_i h; simp only [Bool.not_eq_true] at h; rw [h, Bool.false_or]
theorem names_cut (p : List UInt8) : namesL p = if rightL p then cutL p else [] := by
  unfold namesL cutL
  cases p.isEmpty <;> cases rightL p <;> rfl
theorem letters_noslash (hl : letter 47 = false) : ∀ x : List UInt8, x.all (fun c => letter c.toNat) = true → splitL x = [x]
  | [], _ => rfl
  | c :: r, h => by
    rw [List.all_cons, Bool.and_eq_true] at h
    unfold splitL
    rw [if_neg, letters_noslash hl r h.2]
    intro e
    have e : c = 47 := by simpa using e
    subst e
    have := h.1
    rw [show ((47 : UInt8).toNat : Int) = 47 from rfl, hl] at this
    cases this
/-- A name has no slash, and is not empty. -/
theorem name_noslash (hl : letter 47 = false) (x : List UInt8) (h : nameL x = true) : x ≠ [] ∧ splitL x = [x] := by
  unfold nameL at h
  simp only [Bool.and_eq_true] at h
  refine ⟨?_, letters_noslash hl x h.2⟩
  rintro rfl; simp at h
theorem split_glue (hl : letter 47 = false) : ∀ l : List (List UInt8), l.all nameL = true → l ≠ [] → splitL (glueL l) = l
  | [], _, h => absurd rfl h
  | [x], h, _ => by
    simp at h
    exact (name_noslash hl x h).2
  | x :: y :: r, h, _ => by
    rw [List.all_cons, Bool.and_eq_true] at h
    rw [glue_cons _ _ (by simp), split_append, (name_noslash hl x h.1).2, split_glue hl (y :: r) h.2 (by simp)]; rfl
theorem glue_ne (hl : letter 47 = false) (l : List (List UInt8)) (h : l.all nameL = true) (hne : l ≠ []) : glueL l ≠ [] := by
  cases l with
  | nil => exact absurd rfl hne
  | cons x r =>
    rw [List.all_cons, Bool.and_eq_true] at h
    have := (name_noslash hl x h.1).1
    cases r with
    | nil => exact this
    | cons y z => rw [glue_cons _ _ (by simp)]; simp
theorem cut_glue (hl : letter 47 = false) (l : List (List UInt8)) (h : l.all nameL = true) : cutL (glueL l) = l := by
  by_cases hne : l = []
  · subst hne; rfl
  · rw [cut_ne _ (glue_ne hl l h hne), split_glue hl l h hne]

theorem split_slash (l : List UInt8) : splitL (47 :: l) = [] :: splitL l := rfl
theorem split_other {a : UInt8} (ha : a ≠ 47) {l h : List UInt8} {t : List (List UInt8)} (hs : splitL l = h :: t) : splitL (a :: l) = (a :: h) :: t := by
  have ha' : (a == 47) = false := by simpa using ha
  simp only [splitL, ha', hs, if_false, Bool.false_eq_true]
theorem split_some (l : List UInt8) : ∃ h t, splitL l = h :: t := by
  cases hs : splitL l with
  | nil => exact absurd hs (splitL_ne l)
  | cons h t => exact ⟨h, t, rfl⟩
theorem letter_slash : letter 47 = false := by rfl
end Go.Proofs.YtbklgijndjpgoaaDoor
