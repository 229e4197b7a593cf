/-
  A link's two ways: what lies in memory.
-/
import Derived.Test.YtfknfpngcnianaaBytes
import Derived.Laws.OwnMore
import Derived.Laws.CopyRow
import Derived.Deep.RegionHeld3
import Derived.Deep.LoopGhost
import Derived.Deep.DeepCutAuto
import Derived.StillTailTactics
import Derived.Lib.SlBuf
namespace Go.Proofs.Ytfknfpngcnianaa
open Go.RowKit
set_option maxRecDepth 100000

/-- A packet: its bytes; was it turned? -/
structure Pk where
  b : List UInt8
  t : Bool
/-- A way: what is on it, how much was sent, and lost. -/
structure Way where
  l : List Pk
  sent : Nat
  lost : Nat
def Way.dat (q : Way) (i : Nat) : ByteArray := ofL ((q.l[i]?.map (·.b)).getD [])
def Way.trn (q : Way) (i : Nat) : Bool := (q.l[i]?.map (·.t)).getD false
/-- A way's 35 cells, from o upward. -/
structure QAt (C : Array Value) (o : Nat) (q : Way) : Prop where
  d : ∀ i, i < 16 → C[o + i * 2]? = some (.string (q.dat i))
  t : ∀ i, i < 16 → C[o + i * 2 + 1]? = some (.bool (q.trn i))
  n : C[o + 32]? = some (.int .i64 q.l.length)
  sent : C[o + 33]? = some (.int .i64 q.sent)
  lost : C[o + 34]? = some (.int .i64 q.lost)


theorem QAt.cells {C : Array Value} {o g : Nat} {q : Way} {w : World} (hQ : QAt C o q) (hg : w.heap[g]? = some (.cells C 56 (0, 0))) :
    (∀ i, i < 16 → w.cell? ⟨g, o + i * 2, none⟩ = some (.string (q.dat i))) ∧ (∀ i, i < 16 → w.cell? ⟨g, o + i * 2 + 1, none⟩ = some (.bool (q.trn i))) ∧ w.cell? ⟨g, o + 32, none⟩ = some (.int .i64 q.l.length) ∧ w.cell? ⟨g, o + 33, none⟩ = some (.int .i64 q.sent) ∧ w.cell? ⟨g, o + 34, none⟩ = some (.int .i64 q.lost) :=
  ⟨fun i hi => (cell_of_row _ _ _ _ _ _ hg).trans (hQ.d i hi), fun i hi => (cell_of_row _ _ _ _ _ _ hg).trans (hQ.t i hi), (cell_of_row _ _ _ _ _ _ hg).trans hQ.n, (cell_of_row _ _ _ _ _ _ hg).trans hQ.sent, (cell_of_row _ _ _ _ _ _ hg).trans hQ.lost⟩


theorem addr_add (g o n : Nat) : (⟨g, o, none⟩ : Addr).add n = ⟨g, o + n, none⟩ := by unfold Addr.add; split <;> simp_all
theorem sl_from (g o i : Nat) (hi : i < 16) (w : World) :
    (Instr.sliceAt 51 (.pointer (some ⟨g, o, none⟩)) (some (.int .i64 i)) none none).run Try.prog w = .ok (.slice (some ⟨g, o + i * 2, none⟩) (16 - i) (16 - i)) w := by
  have h2 : ¬ 16 = i := by omega
  simp [Instr.sliceAt, Instr.sliceBounds, Instr.sliceBound, Instr.sureAddr, asIntOf, run_underlying Try.underlying51, go_sem, h2, addr_add]
  omega
theorem sl_part (g o i n : Nat) (hi : i < n) (hn : n ≤ 16) (w : World) :
    (Instr.sliceAt 51 (.pointer (some ⟨g, o, none⟩)) (some (.int .i64 ((i : Int) + 1))) (some (.int .i64 n)) none).run Try.prog w = .ok (.slice (some ⟨g, if 16 = i + 1 then o else o + (i + 1) * 2, none⟩) (n - (i + 1)) (16 - (i + 1))) w := by
  have h1 : (i : Int) + 1 ≤ n := by omega
  have h3 : (0 : Int) ≤ (i : Int) + 1 := by omega
  have h5 : ((i : Int) + 1).toNat = i + 1 := by omega
  by_cases h2 : 16 = i + 1
  · simp [Instr.sliceAt, Instr.sliceBounds, Instr.sliceBound, Instr.sureAddr, asIntOf, run_underlying Try.underlying51, go_sem, h1, h2, h3, h5, addr_add]
    omega
  · simp [Instr.sliceAt, Instr.sliceBounds, Instr.sliceBound, Instr.sureAddr, asIntOf, run_underlying Try.underlying51, go_sem, h1, h2, h3, h5, addr_add]
    omega
/-- The cells behind a packet that was taken out: those behind it come one place nearer. -/
def shiftC (C : Array Value) (o i k : Nat) : Array Value := (C.toList.take (o + i * 2) ++ ((C.toList.drop (o + (i + 1) * 2)).take (k * 2)) ++ C.toList.drop (o + i * 2 + k * 2)).toArray
theorem info_pk : (Try.prog.info? 50).map (·.size) = some 2 := by kernel_rfl
theorem copy2 (g o i k c : Nat) (C : Array Value) (ad : Nat) (w : World) (ty : TypeId) (hg : w.heap[g]? = some (.cells C 56 (0, 0))) (hk : i + 1 + k ≤ 16) (hs : o + 32 ≤ C.size)
    (had : 0 < k → ad = o + (i + 1) * 2) (h1 : ∀ v ∈ C.toList, v.oneCell' = true) :
    (Builtin.copy_ #[68, 68] ty #[.slice (some ⟨g, o + i * 2, none⟩) (16 - i) (16 - i), .slice (some ⟨g, ad, none⟩) k c]).run Try.prog w = .ok (goInt k) (w.setRow g (shiftC C o i k)) := by
  have hlen : ((C.toList.drop (o + (i + 1) * 2)).take (k * 2)).length = k * 2 := by simp; omega
  have hl : (loadCells ⟨g, ad, none⟩ (k * 2)).run Try.prog w = .ok ((C.toList.drop (o + (i + 1) * 2)).take (k * 2)).toArray w := by
    have := run_loadCells_list (P := Try.prog) w ⟨g, ad, none⟩ ((C.toList.drop (o + (i + 1) * 2)).take (k * 2)) (fun j v hj => by
      have hjl := (List.getElem?_eq_some_iff.1 hj).1
      rw [hlen] at hjl
      rw [had (by omega), addr_add, cell_of_row _ _ _ _ _ _ hg]
      rw [List.getElem?_take, if_pos hjl, List.getElem?_drop] at hj
      simpa using hj)
    rwa [hlen] at this
  have hst := run_storeCells_at Try.prog g (o + i * 2) 56 ((C.toList.drop (o + (i + 1) * 2)).take (k * 2)) 0 C w hg (by rw [hlen]; omega) (fun v hv => h1 v (List.mem_of_mem_drop (List.mem_of_mem_take hv)))
  rw [hlen] at hst
  have hmin : Nat.min k (16 - i) = k := Nat.min_eq_left (by omega)
  cases hq : Try.prog.info? 50 with
  | none => have := info_pk; simp [hq] at this
  | some x =>
    have hx : x.size = 2 := by simpa [hq] using info_pk
    have hst2 := hst
    simp only [Nat.add_zero] at hst2
    simp [Builtin.copy_, run_underlying Try.underlying68, Builtin.lenOf, Builtin.firstCells, sizeOf, typeInfo, hq, hx, hmin, hl, hst2, shiftC]

/-- Two rows, made one behind the other. -/
theorem rows2 (w : World) (c d : Array Value) (t u : TypeId) : ((w.alloc (.cells c t)).alloc (.cells d u)).heap[w.heap.size]? = some (.cells c t (0, 0)) ∧ ((w.alloc (.cells c t)).alloc (.cells d u)).heap[w.heap.size + 1]? = some (.cells d u (0, 0)) ∧ Below w.heap.size w ((w.alloc (.cells c t)).alloc (.cells d u)) := by
  refine ⟨?_, ?_, ((Below.refl _ w).alloc (Nat.le_refl _) _).alloc (by simp) _⟩
  · rw [Below.heap_alloc _ _ _ (by simp)]
    exact World.alloc_heap_new _ _
  · have h := World.alloc_heap_new (w.alloc (.cells c t)) (Obj.cells d u)
    simp only [World.size_alloc] at h
    exact h


theorem shiftC_size (C : Array Value) (o i k : Nat) (h : o + i * 2 + 2 + k * 2 ≤ C.size) : (shiftC C o i k).size = C.size := by
  simp [shiftC]
  omega
theorem shiftC_get (C : Array Value) (o i k j : Nat) (h : o + i * 2 + 2 + k * 2 ≤ C.size) : (shiftC C o i k)[j]? = if j < o + i * 2 then C[j]? else if j < o + i * 2 + k * 2 then C[j + 2]? else C[j]? := by
  have e : o + (i + 1) * 2 = o + i * 2 + 2 := by omega
  unfold shiftC
  rw [e, List.getElem?_toArray]
  by_cases h1 : j < o + i * 2
  · rw [if_pos h1, List.getElem?_append_left (by simp; omega), List.getElem?_append_left (by simp; omega), List.getElem?_take, if_pos h1, Array.getElem?_toList]
  · rw [if_neg h1]
    by_cases h2 : j < o + i * 2 + k * 2
    · rw [if_pos h2, List.getElem?_append_left (by simp; omega), List.getElem?_append_right (by simp; omega), List.getElem?_take, if_pos (by simp; omega), List.getElem?_drop, Array.getElem?_toList]
      congr 1
      simp
      omega
    · rw [if_neg h2, List.getElem?_append_right (by simp; omega), List.getElem?_drop, Array.getElem?_toList]
      congr 1
      simp
      omega
theorem shiftC_one (C : Array Value) (o i k : Nat) (h1 : ∀ v ∈ C.toList, v.oneCell' = true) : ∀ v ∈ (shiftC C o i k).toList, v.oneCell' = true := by
  intro v hv
  simp only [shiftC, List.mem_append] at hv
  rcases hv with (hv | hv) | hv
  · exact h1 v (List.mem_of_mem_take hv)
  · exact h1 v (List.mem_of_mem_drop (List.mem_of_mem_take hv))
  · exact h1 v (List.mem_of_mem_drop hv)
theorem one_set {C : Array Value} (h1 : ∀ v ∈ C.toList, v.oneCell' = true) (j : Nat) (x : Value) (hx : x.oneCell' = true) : ∀ v ∈ (C.setIfInBounds j x).toList, v.oneCell' = true := by
  intro v hv
  rw [Array.toList_setIfInBounds] at hv
  rcases List.mem_or_eq_of_mem_set hv with hv | rfl
  · exact h1 v hv
  · exact hx
/-- A way without a packet. -/
def Way.took (q : Way) (i : Nat) : Way := { q with l := q.l.eraseIdx i }
theorem took_len (q : Way) (i : Nat) (hi : i < q.l.length) : (q.took i).l.length = q.l.length - 1 := by unfold Way.took; simp [List.length_eraseIdx, hi]
theorem took_get (q : Way) (i j : Nat) : (q.took i).l[j]? = if j < i then q.l[j]? else q.l[j + 1]? := by unfold Way.took; simp [List.getElem?_eraseIdx]
/-- The cells behind 'take'. -/
def tookC (C : Array Value) (o i n : Nat) : Array Value :=
  (((shiftC C o i (n - (i + 1))).setIfInBounds (o + 32) (.int .i64 ((n - 1 : Nat) : Int))).setIfInBounds (o + (n - 1) * 2) (.string ⟨#[]⟩)).setIfInBounds (o + (n - 1) * 2 + 1) (.bool false)
theorem tookC_get (C : Array Value) (o i n j : Nat) (hi : i < n) (hn : n ≤ 16) (hs : o + 35 ≤ C.size) : (tookC C o i n)[j]? = if j = o + (n - 1) * 2 + 1 then some (.bool false) else if j = o + (n - 1) * 2 then some (.string ⟨#[]⟩) else if j = o + 32 then some (.int .i64 ((n - 1 : Nat) : Int)) else if j < o + i * 2 then C[j]? else if j < o + (n - 1) * 2 then C[j + 2]? else C[j]? := by
  have hz : (shiftC C o i (n - (i + 1))).size = C.size := shiftC_size _ _ _ _ (by omega)
  have hg := shiftC_get C o i (n - (i + 1)) j (by omega)
  have e : o + i * 2 + (n - (i + 1)) * 2 = o + (n - 1) * 2 := by omega
  rw [e] at hg
  unfold tookC
  rw [Array.getElem?_setIfInBounds, Array.getElem?_setIfInBounds, Array.getElem?_setIfInBounds, hg]
  simp only [Array.size_setIfInBounds, hz]
  by_cases a : j = o + (n - 1) * 2 + 1
  · subst a; simp; omega
  · by_cases b : j = o + (n - 1) * 2
    · subst b; simp; omega
    · by_cases c : j = o + 32
      · rw [if_neg (Ne.symm a), if_neg (Ne.symm b), if_pos c.symm, if_pos (by omega), if_neg a, if_neg b, if_pos c]
      · simp [a, b, c, Ne.symm a, Ne.symm b, Ne.symm c]
theorem tookC_ok (C : Array Value) (o i : Nat) (q : Way) (hQ : QAt C o q) (hi : i < q.l.length) (hn : q.l.length ≤ 16) (hs : o + 35 ≤ C.size) : QAt (tookC C o i q.l.length) o (q.took i) := by
  have G := fun j => tookC_get C o i q.l.length j hi hn hs
  generalize hN : q.l.length = n at *
  refine ⟨fun j hj => ?_, fun j hj => ?_, ?_, ?_, ?_⟩
  · rw [G]
    unfold Way.dat
    rw [took_get]
    by_cases a : j < i
    · rw [if_neg (by omega), if_neg (by omega), if_neg (by omega), if_pos (by omega), if_pos a]
      exact hQ.d j hj
    · rw [if_neg a]
      by_cases b : j + 1 < n
      · rw [if_neg (by omega), if_neg (by omega), if_neg (by omega), if_neg (by omega), if_pos (by omega), show o + j * 2 + 2 = o + (j + 1) * 2 by omega]
        exact hQ.d (j + 1) (by omega)
      · have hno : q.l[j + 1]? = none := by rw [List.getElem?_eq_none_iff]; omega
        rw [hno]
        by_cases c : j + 1 = n
        · rw [if_neg (by omega), if_pos (by omega)]; rfl
        · rw [if_neg (by omega), if_neg (by omega), if_neg (by omega), if_neg (by omega), if_neg (by omega), hQ.d j hj]
          unfold Way.dat
          rw [show q.l[j]? = none by rw [List.getElem?_eq_none_iff]; omega]
  · rw [G]
    unfold Way.trn
    rw [took_get]
    by_cases a : j < i
    · rw [if_neg (by omega), if_neg (by omega), if_neg (by omega), if_pos (by omega), if_pos a]
      exact hQ.t j hj
    · rw [if_neg a]
      by_cases b : j + 1 < n
      · rw [if_neg (by omega), if_neg (by omega), if_neg (by omega), if_neg (by omega), if_pos (by omega), show o + j * 2 + 1 + 2 = o + (j + 1) * 2 + 1 by omega]
        exact hQ.t (j + 1) (by omega)
      · have hno : q.l[j + 1]? = none := by rw [List.getElem?_eq_none_iff]; omega
        rw [hno]
        by_cases c : j + 1 = n
        · rw [if_pos (by omega)]; rfl
        · rw [if_neg (by omega), if_neg (by omega), if_neg (by omega), if_neg (by omega), if_neg (by omega), hQ.t j hj]
          unfold Way.trn
          rw [show q.l[j]? = none by rw [List.getElem?_eq_none_iff]; omega]
  · rw [G, if_neg (by omega), if_neg (by omega), if_pos rfl, took_len _ _ (by omega), hN]
  · rw [G, if_neg (by omega), if_neg (by omega), if_neg (by omega), if_neg (by omega), if_neg (by omega)]
    exact hQ.sent
  · rw [G, if_neg (by omega), if_neg (by omega), if_neg (by omega), if_neg (by omega), if_neg (by omega)]
    exact hQ.lost
theorem tookC_off (C : Array Value) (o i n j : Nat) (hi : i < n) (hn : n ≤ 16) (hs : o + 35 ≤ C.size) (hj : j < o ∨ o + 35 ≤ j) : (tookC C o i n)[j]? = C[j]? := by
  rw [tookC_get _ _ _ _ _ hi hn hs, if_neg (by omega), if_neg (by omega), if_neg (by omega)]
  by_cases h : j < o + i * 2
  · rw [if_pos h]
  · rw [if_neg h, if_neg (by omega)]
theorem tookC_size (C : Array Value) (o i n : Nat) (hi : i < n) (hn : n ≤ 16) (hs : o + 35 ≤ C.size) : (tookC C o i n).size = C.size := by
  unfold tookC
  simp only [Array.size_setIfInBounds]
  exact shiftC_size _ _ _ _ (by omega)
theorem tookC_one (C : Array Value) (o i n : Nat) (h1 : ∀ v ∈ C.toList, v.oneCell' = true) : ∀ v ∈ (tookC C o i n).toList, v.oneCell' = true :=
  one_set (one_set (one_set (shiftC_one _ _ _ _ h1) _ _ rfl) _ _ rfl) _ _ rfl
end Go.Proofs.Ytfknfpngcnianaa
