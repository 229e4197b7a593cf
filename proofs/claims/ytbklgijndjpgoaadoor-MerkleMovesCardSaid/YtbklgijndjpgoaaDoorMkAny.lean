/-
  merkle: any node's print, any directory's: by induction over what is left of a path's length.
-/
import Derived.Test.YtbklgijndjpgoaaDoorMkDir
import Derived.Test.YtbklgijndjpgoaaDoorMkOfKept
import Derived.Test.YtbklgijndjpgoaaDoorMkOfNew
import Derived.Test.YtbklgijndjpgoaaDoorMkAt
namespace Go.Proofs.YtbklgijndjpgoaaDoor
open Go.RowKit
set_option maxRecDepth 100000

theorem of_step {B M : Nat} {t : List Nd} {n : Nd} (hT : MT t) (hn : n.path ∈ ⟨#[]⟩ :: t.map Nd.path) (hs : n.path.size ≤ 600) (hd : n.data.size ≤ 1000000)
    (HD : n.kind = 1 → ∀ W, PrOk W B t M → Calls Tryd.prog 42 #[.pointer (some ⟨B + 2, 0, none⟩), .string n.path] W (PrPost W B M t (sumL (dirT t n.path)))) (w : World) (h : PrOk w B t M) :
    Calls Tryd.prog 24 #[.pointer (some ⟨B + 2, 0, none⟩), .agg n.cells] w (PrPost w B M t (sumL (ndT t n))) := by
  have hsm : n.path.size ≤ maxLen := by unfold maxLen; omega
  unfold ndT
  by_cases hk : n.kind = 1
  · rw [if_pos hk]
    have hk' : (n.kind == 1) = true := by rw [hk]; rfl
    rcases h.look n.path hsm with hl | hl
    · exact of_new B M t n w hk' h hn hsm hT.len hl (HD hk)
    · exact of_kept B M t n w hk' h hl
  · rw [if_neg hk]
    exact of_file B M t n w (by simpa using hk) (by omega) h
theorem dir_all {B M : Nat} {t : List Nd} (hT : MT t) : ∀ (d : Nat) (p : ByteArray), p.size ≤ 600 → 600 ≤ p.size + d → ∀ w, PrOk w B t M →
    Calls Tryd.prog 42 #[.pointer (some ⟨B + 2, 0, none⟩), .string p] w (PrPost w B M t (sumL (dirT t p)))
  | 0, p, hp, hd, w, h => dir_step B M t p w hT (by unfold maxLen; omega) h fun m hm => by
    have h1 := kid_longer (kid_mem hm).2
    have h2 := hT.path m (kid_mem hm).1
    omega
  | d + 1, p, hp, hd, w, h => dir_step B M t p w hT (by unfold maxLen; omega) h fun m hm => by
    have h1 := kid_longer (kid_mem hm).2
    have hmt := (kid_mem hm).1
    exact of_step hT (List.mem_cons_of_mem _ (List.mem_map.2 ⟨m, hmt, rfl⟩)) (hT.path m hmt) (hT.data m hmt) fun _ => dir_all hT d m.path (hT.path m hmt) (by omega)
/-- Any node's print. -/
theorem of_all {B M : Nat} {t : List Nd} {n : Nd} (hT : MT t) (hn : n.path ∈ ⟨#[]⟩ :: t.map Nd.path) (hs : n.path.size ≤ 600) (hd : n.data.size ≤ 1000000) (w : World) (h : PrOk w B t M) :
    Calls Tryd.prog 24 #[.pointer (some ⟨B + 2, 0, none⟩), .agg n.cells] w (PrPost w B M t (sumL (ndT t n))) :=
  of_step hT hn hs hd (fun _ => dir_all hT 600 n.path hs (by omega)) w h

/-- What is at a path: its print, if there is something. -/
def prtL (p : ByteArray) (l : List Nd) : (Nat × Nat) × Bool := if (topL p l).2 = true then (sumL (ndT l (topL p l).1), true) else ((0, 0), false)
theorem top_good {l : List Nd} (hT : MT l) (p : ByteArray) (h : (topL p l).2 = true) : (topL p l).1.path ∈ (⟨#[]⟩ : ByteArray) :: l.map Nd.path ∧ (topL p l).1.path.size ≤ 600 ∧ (topL p l).1.data.size ≤ 1000000 := by
  unfold topL at h ⊢
  split at h <;> rename_i he
  · rw [if_pos he]
    exact ⟨List.mem_cons_self, Nat.zero_le _, Nat.zero_le _⟩
  · rw [if_neg he]
    unfold findL at h ⊢
    split at h <;> rename_i ha
    · cases h
    · rw [if_neg ha]
      rcases at_cases p l with h1 | ⟨k, n, h1, h2, _⟩
      · omega
      · have e : l.getD (atL p l).toNat zeroNd = n := by rw [h1, Int.toNat_natCast, List.getD_eq_getElem?_getD, h2]; rfl
        simp only
        rw [e]
        have hm := List.mem_of_getElem? h2
        exact ⟨List.mem_cons_of_mem _ (List.mem_map.2 ⟨n, hm, rfl⟩), hT.path n hm, hT.data n hm⟩

set_option maxHeartbeats 16000000 in
theorem mkOf_any (A : Option Addr) (l : List Nd) (c : Nat) (p : ByteArray) (w : World) (hA : RdN w w.heap.size A l) (hT : MT l) :
    Calls Tryd.prog 9 #[.slice A l.length c, .string p] w fun e w' => e = .returned (.tuple #[.agg #[.int .u64 ((prtL p l).1.1 : Nat), .int .u64 ((prtL p l).1.2 : Nat)], .bool (prtL p l).2]) ∧ Below w.heap.size w w' := by
  have hB0 : Below w.heap.size w (w.alloc (.cells #[.int .u64 0, .int .u64 0] 28)) := (Below.refl _ w).alloc (Nat.le_refl _) _
  have r0 := World.alloc_heap_new w (Obj.cells #[.int .u64 0, .int .u64 0] 28)
  have hg := fun h => top_good hT p h
  have HTop := hide (top_any A l c p (w.alloc (.cells #[.int .u64 0, .int .u64 0] 28)) (hA.step hB0) (by have := hT.len; omega))
  obtain ⟨V, hV⟩ : ∃ V, V = prtL p l := ⟨_, rfl⟩
  rw [← hV]
  unfold prtL at hV
  generalize topL p l = T at hg HTop hV
  obtain ⟨⟨path, kind, mode, time, data⟩, ok⟩ := T
  simp only at hg hV
  have HV := hide hV
  have HA := hide hA
  have HT := hide hT
  clear hV hA hT
  go_enter Tryd.func9, Tryd.ntmps9
  go_wp2_with fail
  refine HTop.out.mono ?_
  rintro e w3 ⟨rfl, hb3⟩
  clear HTop
  have s3 := (hb3.block w.heap.size (by simp)).trans r0
  have hB3 := hB0.trans (hb3.mono hB0.size)
  clear r0 hB0 hb3
  simp only [Nd.cells]
  cases ok with
  | false =>
    have hE := HV.out
    rw [if_neg (by decide)] at hE
    have hX1 := (Below.heap_alloc w3 (.cells #[.string path, .int .i64 kind, .int .i64 mode, .int .i64 time, .string data] 34) _ (Array.getElem?_eq_some_iff.1 s3).1).trans s3
    have hBX := hB3.alloc hB3.size (.cells #[.string path, .int .i64 kind, .int .i64 mode, .int .i64 time, .string data] 34)
    have z0 := frozen_of_row _ _ 0 _ _ hX1
    have z1 := frozen_of_row _ _ 1 _ _ hX1
    have d0 : (w3.alloc (.cells #[.string path, .int .i64 kind, .int .i64 mode, .int .i64 time, .string data] 34)).cell? ⟨w.heap.size, 0, none⟩ = some (.int .u64 0) := cell_of_row _ _ _ _ _ _ hX1
    have d1 : (w3.alloc (.cells #[.string path, .int .i64 kind, .int .i64 mode, .int .i64 time, .string data] 34)).cell? ⟨w.heap.size, 1, none⟩ = some (.int .u64 0) := cell_of_row _ _ _ _ _ _ hX1
    go_wp2_with fail
    obtain ⟨y0, y1, hBf⟩ := set_two w (w3.alloc (.cells #[.string path, .int .i64 kind, .int .i64 mode, .int .i64 time, .string data] 34)) w.heap.size _ _ (.int .u64 0) (.int .u64 0) _ hX1 (Nat.le_refl _) hBX
    refine bodyPost_ret (v := .tuple #[.agg #[.int .u64 0, .int .u64 0], .bool false]) (by simp [results, Tryd.results9, go_sem, y0, y1]) rfl ⟨by rw [hE]; rfl, hBf⟩
  | true =>
    have hE := HV.out
    rw [if_pos rfl] at hE
    obtain ⟨g1, g2, g3⟩ := hg rfl
    have HE := hide hE
    have hX1 := (Below.heap_alloc w3 (.cells #[.string path, .int .i64 kind, .int .i64 mode, .int .i64 time, .string data] 34) _ (Array.getElem?_eq_some_iff.1 s3).1).trans s3
    have hX0 := World.alloc_heap_new w3 (Obj.cells #[.string path, .int .i64 kind, .int .i64 mode, .int .i64 time, .string data] 34)
    have hBX := hB3.alloc hB3.size (.cells #[.string path, .int .i64 kind, .int .i64 mode, .int .i64 time, .string data] 34)
    have hwX := (Array.getElem?_eq_some_iff.1 s3).1
    have hXs : (w3.alloc (.cells #[.string path, .int .i64 kind, .int .i64 mode, .int .i64 time, .string data] 34)).heap.size = w3.heap.size + 1 := by simp
    clear hE HV hg s3 hB3
    go_wp2_with fail
    generalize w3.alloc (.cells #[.string path, .int .i64 kind, .int .i64 mode, .int .i64 time, .string data] 34) = X at hX1 hX0 hBX hXs ⊢
    have HLook := hide (show Calls Tryd.prog 23 #[.slice A l.length c] X.drew fun e w' => e = .returned (.pointer (some ⟨X.heap.size + 2, 0, none⟩)) ∧ PrOk w' X.heap.size l w'.heap.size ∧ Below X.heap.size X.drew w' from look_any A l c X.drew (HA.out.step hBX.drew) HT.out.path HT.out.len)
    have HOfA := hide (fun (W : World) (h : PrOk W X.heap.size l W.heap.size) => of_all (n := ⟨path, kind, mode, time, data⟩) HT.out g1 g2 g3 W h)
    simp only [Nd.cells] at HOfA
    have HSf := hide (fun (W : World) (h : W.heap[w3.heap.size]? = some (.cells #[.string path, .int .i64 kind, .int .i64 mode, .int .i64 time, .string data] 34 (0, 0))) =>
      (⟨cell_of_row _ _ _ _ _ _ h, cell_of_row _ _ _ _ _ _ h, cell_of_row _ _ _ _ _ _ h, cell_of_row _ _ _ _ _ _ h, cell_of_row _ _ _ _ _ _ h⟩ :
        W.cell? ⟨w3.heap.size, 0, none⟩ = some (.string path) ∧ W.cell? ⟨w3.heap.size, 1, none⟩ = some (.int .i64 kind) ∧ W.cell? ⟨w3.heap.size, 2, none⟩ = some (.int .i64 mode) ∧ W.cell? ⟨w3.heap.size, 3, none⟩ = some (.int .i64 time) ∧ W.cell? ⟨w3.heap.size, 4, none⟩ = some (.string data)))
    generalize sumL (ndT l ⟨path, kind, mode, time, data⟩) = q at HOfA HE
    have hS3 := hide (HSf.out X.drew hX0)
    have HX0 := hide hX0
    have HX1 := hide hX1
    have HBX := hide hBX
    have HXs := hide hXs
    clear hX0 hX1 hBX g1 g2 g3 hXs
    go_region_held3 (fun w' => w'.cell? ⟨w3.heap.size, 0, none⟩ = some (.string path) ∧ w'.cell? ⟨w3.heap.size, 1, none⟩ = some (.int .i64 kind) ∧ w'.cell? ⟨w3.heap.size, 2, none⟩ = some (.int .i64 mode) ∧ w'.cell? ⟨w3.heap.size, 3, none⟩ = some (.int .i64 time) ∧ w'.cell? ⟨w3.heap.size, 4, none⟩ = some (.string data))
      (first | exact hS3.out | exact hS4.out | exact hS5.out | exact hS7.out)
      (first
        | (go_at_call 23
           refine HLook.out.mono ?_
           rintro e w4 ⟨rfl, hP4, hb4⟩
           have r4 := (hb4.block w3.heap.size (by have := HXs.out; omega)).trans HX0.out
           have hS4 := hide (HSf.out w4 r4))
        | (go_at_call 24
           refine (HOfA.out _ hP4).mono ?_
           rintro e w5 ⟨rfl, _, hg5⟩
           have hXs := HXs.out
           have hlt4 : X.heap.size ≤ w4.heap.size := hb4.size
           have r5 := (hg5.block w3.heap.size (Array.getElem?_eq_some_iff.1 r4).1 (by simp; omega)).trans r4
           have hS5 := hide (HSf.out w5 r5)
           have s5 := (hg5.block w.heap.size (by omega) (by simp; omega)).trans ((hb4.block w.heap.size (by omega)).trans HX1.out)
           have z0 := frozen_of_row _ _ 0 _ _ s5
           have z1 := frozen_of_row _ _ 1 _ _ s5
           have d0 : w5.cell? ⟨w.heap.size, 0, none⟩ = some (.int .u64 0) := cell_of_row _ _ _ _ _ _ s5
           have d1 : w5.cell? ⟨w.heap.size, 1, none⟩ = some (.int .u64 0) := cell_of_row _ _ _ _ _ _ s5
           obtain ⟨W7, hW7, x7, hg7⟩ := set_pair w5 w.heap.size _ _ (.int .u64 (q.1 : Nat)) (.int .u64 (q.2 : Nat)) _ s5
           have r7 := (hg7.block w3.heap.size (Array.getElem?_eq_some_iff.1 r5).1 (by simp; omega)).trans r5
           have hS7 := hide (HSf.out W7 r7)
           have hw4 : w.heap.size ≤ w4.heap.size := by omega
           have hw5 : w.heap.size ≤ w5.heap.size := Nat.le_trans hw4 hg5.size
           have hB4 : Below w.heap.size w w4 := (HBX.out.drew).trans (hb4.mono (show w.heap.size ≤ X.heap.size by omega))
           have hB5 : Below w.heap.size w w5 := hB4.grown hg5 hw4 (fun k hk => by cases hk; omega)
           have hB7 : Below w.heap.size w W7 := hB5.grown hg7 hw5 (fun k hk => by cases hk; exact Nat.le_refl _)
           subst hW7))
    all_goals
      have y0 := cell_of_row _ _ 0 _ _ _ x7
      have y1 := cell_of_row _ _ 1 _ _ _ x7
      clear hS3 hS4 hS5 hS7 HX0 HX1 HLook HOfA
      go_wp2_with fail
      refine bodyPost_ret (v := .tuple #[.agg #[.int .u64 (q.1 : Nat), .int .u64 (q.2 : Nat)], .bool true]) (by simp [results, Tryd.results9, go_sem, y0, y1]) rfl ⟨by rw [HE.out], hB7⟩
end Go.Proofs.YtbklgijndjpgoaaDoor
