/-
  merkle.each, merkle.All: the prints of all nodes.
-/
import Derived.Test.YtbklgijndjpgoaaDoorMkAny
namespace Go.Proofs.YtbklgijndjpgoaaDoor
open Go.RowKit
set_option maxRecDepth 100000

/-- Sums' cells. -/
def cellsS (l : List (Nat × Nat)) : List Value := l.flatMap fun q => [.int .u64 (q.1 : Nat), .int .u64 (q.2 : Nat)]
theorem cellsS_snoc (l : List (Nat × Nat)) (q : Nat × Nat) : cellsS (l ++ [q]) = cellsS l ++ [.int .u64 (q.1 : Nat), .int .u64 (q.2 : Nat)] := by simp [cellsS]
theorem cellsS_get : ∀ (l : List (Nat × Nat)) (k : Nat) (q : Nat × Nat), l[k]? = some q → (cellsS l)[k * 2]? = some (.int .u64 (q.1 : Nat)) ∧ (cellsS l)[k * 2 + 1]? = some (.int .u64 (q.2 : Nat))
  | [], k, n, h => by simp at h
  | u :: l, 0, n, h => by
    simp at h
    subst h
    exact ⟨rfl, rfl⟩
  | u :: l, k + 1, n, h => by
    obtain ⟨h1, h2⟩ := cellsS_get l k n (by simpa using h)
    exact ⟨by rw [show (k + 1) * 2 = k * 2 + 1 + 1 by omega]; exact h1, by rw [show (k + 1) * 2 + 1 = k * 2 + 1 + 1 + 1 by omega]; exact h2⟩
theorem info_sum : (Tryd.prog.info? 28).map (fun i => (i.zero, i.size, i.bytes)) = some (some (.agg #[.int .u64 0, .int .u64 0]), 2, 16) := by kernel_rfl
/-- The prints of all nodes. -/
def allP (l : List Nd) : List (Nat × Nat) := l.map fun n => sumL (ndT l n)

/-- What each has made of the first j nodes. -/
structure EachI (w wr : World) (B M : Nat) (l : List Nd) (A : Option Addr) (v : Value) (j : Nat) : Prop where
  ok : PrOk wr B l M
  rd : RdN wr w.heap.size A l
  own : wr.ownsRow w.heap.size 28 2 v j (cellsS ((allP l).take j))
  grown : w.grownBy wr (some (B + 1))

set_option maxHeartbeats 16000000 in
theorem each_any (A : Option Addr) (l : List Nd) (c B M : Nat) (w : World) (hA : RdN w w.heap.size A l) (hT : MT l) (h : PrOk w B l M) :
    Calls Tryd.prog 26 #[.slice A l.length c, .func (.func 24) #[.pointer (some ⟨B + 2, 0, none⟩)] #[]] w fun e w' => ∃ v, e = .returned v ∧ w'.ownsRow w.heap.size 28 2 v l.length (cellsS (allP l)) ∧ w.grownBy w' (some (B + 1)) := by
  obtain ⟨i0, hi, hz0, hz1, hz2⟩ := info_parts info_sum
  have H0 := hide (show EachI w w B M l A (.slice none 0 0) 0 from ⟨h, hA, World.ownsRow_nil _ _ _ _, ⟨rfl, rfl, rfl, Nat.le_refl _, fun _ _ _ => rfl⟩⟩)
  have hlow := h.low
  have hMw := h.size
  have hlen := hT.len
  have HT := hide hT
  clear hA hT h
  go_enter Tryd.func26, Tryd.ntmps26
  go_wp2_with fail
  go_loopg [5, 10] l.length (fun gk ov iv wr => ∃ j : Nat, iv = .int .i64 j ∧ j + gk = l.length ∧ Hid (EachI w wr B M l A ov j))
  case atStart => exact ⟨0, rfl, by omega, H0⟩
  case round =>
    obtain ⟨j, rfl, hjg, HI⟩ := hrel
    clear H0
    cases gk with
    | zero =>
      obtain rfl : j = l.length := by omega
      have hO := HI.out.own
      rw [List.take_of_length_le (by unfold allP; rw [List.length_map]; exact Nat.le_refl _)] at hO
      have HFin := hide (And.intro hO HI.out.grown)
      clear HI hO
      go_wp2_with fail
      exact bodyPost_ret (results_tmp rfl _ _ _) rfl ⟨u5, rfl, HFin.out⟩
    | succ g1 =>
      have hji : (j : Int) < l.length := by omega
      obtain ⟨n, hn⟩ : ∃ n, l[j]? = some n := ⟨_, List.getElem?_eq_getElem (by omega)⟩
      have hm := List.mem_of_getElem? hn
      obtain ⟨ad, rfl, hlt, hnd⟩ := HI.out.rd j n hn
      have HOf := hide (fun W h => of_all (B := B) (M := M) HT.out (List.mem_cons_of_mem _ (List.mem_map.2 ⟨n, hm, rfl⟩)) (HT.out.path n hm) (HT.out.data n hm) W h)
      have hp : (allP l)[j]? = some (sumL (ndT l n)) := by unfold allP; rw [List.getElem?_map, hn]; rfl
      have htk : (allP l).take (j + 1) = (allP l).take j ++ [sumL (ndT l n)] := by rw [List.take_add_one, hp]; rfl
      generalize sumL (ndT l n) = q at HOf htk
      have HTk := hide htk
      have hjw : IntKind.i64.wrap ((j : Int) + 1) = ((j + 1 : Nat) : Int) := by rw [IntWalk.i64_in _ (by omega)]; rfl
      obtain ⟨c0, c1, c2, c3, c4⟩ := hnd
      obtain ⟨path, kind, mode, time, data⟩ := n
      simp only [Nd.cells] at HOf
      simp only at c0 c1 c2 c3 c4
      clear hn hm hp htk hlt
      have HP2 := hide (HI.out.ok.step (World.grownBy_alloc wr (.cells #[.string path, .int .i64 kind, .int .i64 mode, .int .i64 time, .string data] 34) none))
      go_wp2_with fail
      refine (HOf.out _ HP2.out).mono ?_
      rintro e w6 ⟨rfl, hP6, hg6⟩
      have hgA : wr.grownBy w6 (some (B + 1)) := (World.grownBy_alloc wr _ _).trans hg6
      have hO6 : w6.ownsRow w.heap.size 28 2 u5 j (cellsS ((allP l).take j)) := HI.out.own.kept hgA (by
        cases hv : u5.ownBlock with
        | none => exact .inl rfl
        | some g => have := (ownsRow_block HI.out.own hv).1; exact .inr (by simp; omega))
      obtain ⟨gm, hmm, _⟩ := HI.out.ok.kept
      have hR6 := HI.out.rd.grown hmm hgA
      have hG6 := HI.out.grown.trans hgA
      have hO7 := hO6.alloc (.cells #[.int .u64 (q.1 : Nat), .int .u64 (q.2 : Nat)] 28)
      have hnew := World.news_of_block (World.alloc_heap_new w6 (Obj.cells #[.int .u64 (q.1 : Nat), .int .u64 (q.2 : Nat)] 28))
      have hbase : w.heap.size ≤ (w6.alloc (.cells #[.int .u64 (q.1 : Nat), .int .u64 (q.2 : Nat)] 28)).heap.size := by have := hG6.size; simp; omega
      have HR6 := hide hR6
      have HG6 := hide hG6
      have HP6 := hide hP6
      clear HOf HP2 HI hg6 hgA hO6 hmm hR6 hG6 hP6 c0 c1 c2 c3 c4
      go_wp2_with (at_builtin; refine wpList_append_own _ rfl _ _ 31 rfl w.heap.size 28 i0 _ 2 16 Tryd.underlying31 hi hz0 hz1 hz2 rfl (by decide) _ _ _ rfl hO7 ⟨w6.heap.size, 0, none⟩ 1 1 [.int .u64 (q.1 : Nat), .int .u64 (q.2 : Nat)] rfl rfl hnew (by simp [Value.oneCell']) (by unfold maxLen; omega) (by omega) hbase ?_)
      intro v' w8 hO8 hg8 _
      have hgB : w6.grownBy w8 u5.ownBlock := (World.grownBy_alloc w6 _ _).trans hg8
      have hb8 : Below w.heap.size w6 w8 := (Below.refl _ w6).grown hgB HG6.out.size (fun k hk => (ownsRow_block hO7 hk).1)
      have hE8 : EachI w w8 B M l (some ad) v' (j + 1) := by
        refine ⟨HP6.out.below (hb8.mono hMw), HR6.out.below hb8 (Nat.le_refl _), ?_, ?_⟩
        · rw [HTk.out, cellsS_snoc]; exact hO8
        · have hg6 := HG6.out
          exact ⟨hb8.os.trans hg6.os, hb8.tape.trans hg6.tape, hb8.output.trans hg6.output, Nat.le_trans hg6.size hb8.size, fun k hk hr => (hb8.block k hk).trans (hg6.block k hk hr)⟩
      have HE8 := hide hE8
      clear hO7 hnew hbase HR6 HG6 HP6 hO8 hg8 hgB hb8 hE8 HTk
      go_wp2_with fail
      go_roundg g1
      case rel => exact ⟨j + 1, rfl, by omega, HE8⟩
      case measure => omega

set_option maxHeartbeats 8000000 in
theorem all_any (A : Option Addr) (l : List Nd) (c : Nat) (w : World) (hA : RdN w w.heap.size A l) (hT : MT l) :
    Calls Tryd.prog 11 #[.slice A l.length c] w fun e w' => ∃ v, e = .returned v ∧ w'.ownsRow w.heap.size 28 2 v l.length (cellsS (allP l)) ∧ Below w.heap.size w w' := by
  have HLook := hide (look_any A l c w hA hT.path hT.len)
  have HEach := hide (fun (W : World) (h : PrOk W w.heap.size l W.heap.size) (hb : Below w.heap.size w W) => each_any A l c w.heap.size W.heap.size W (hA.step hb) hT h)
  clear hA hT
  go_enter Tryd.func11, Tryd.ntmps11
  go_wp2_with fail
  refine HLook.out.mono ?_
  rintro e w3 ⟨rfl, hP3, hb3⟩
  have HEa := hide (HEach.out w3 hP3 hb3)
  clear HLook HEach
  go_wp2_with fail
  refine HEa.out.mono ?_
  rintro e w4 ⟨v, rfl, hO, hg⟩
  have hbF : Below w.heap.size w w4 := hb3.grown hg hb3.size (fun k hk => by cases hk; omega)
  have HF := hide (And.intro (ownsRow_lowerN hO hb3.size) hbF)
  clear hP3 HEa hO hg hbF
  go_wp2_with fail
  exact bodyPost_ret (results_tmp rfl _ _ _) rfl ⟨v, rfl, HF.out⟩
end Go.Proofs.YtbklgijndjpgoaaDoor
