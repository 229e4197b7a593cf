/-
  Texts that belong together: MiSortLay, MiSort, MiSorts, MiWalk, MiMarks.
-/
import Derived.Test.YteoafohebgfjdaaGreatDoorProg
import Derived.Shelf.SlLaysF0
import Derived.Test.YteoafohebgfjdaaGreatDoorAutoMiOurs
import Derived.Test.YteoafohebgfjdaaGreatDoorAutoRefCmp
import Derived.Test.YteoafohebgfjdaaGreatDoorAutoMiWell
import Derived.Test.YteoafohebgfjdaaGreatDoorMiUnder
import Derived.Shelf.SlSortCmp.InsertionK
import Derived.Shelf.SlSortCmp.NoneTotal
import Derived.Test.YteoafohebgfjdaaGreatDoorAutoMkWithin
import Derived.Test.YteoafohebgfjdaaGreatDoorAutoPathName
/-
  The numbers of this dump at which the library's text of slices.SortFunc lies: so its contract speaks here.
-/
namespace Go.Proofs.YteoafohebgfjdaaGreatDoor
open Go.Shelf

def sort44_ren : Go.Shelf.Ren := ⟨fun | 6 => 44 | 15 => 62 | 14 => 61 | 28 => 82 | 29 => 83 | 20 => 74 | 21 => 75 | 22 => 76 | 23 => 77 | 24 => 78 | 25 => 79 | 26 => 80 | 27 => 81 | 46 => 93 | 47 => 94 | 48 => 95 | 49 => 96 | 50 => 97 | 57 => 105 | n => n, fun | 22 => 48 | 24 => 53 | 25 => 73 | 3 => 3 | 39 => 83 | 0 => 0 | 53 => 96 | 55 => 98 | 4 => 4 | 46 => 89 | 45 => 88 | 50 => 93 | 5 => 5 | 9 => 9 | 66 => 107 | 70 => 111 | 76 => 126 | 77 => 127 | n => n, fun | n => n⟩
theorem sort44 : Go.Proofs.SlLaysF0.n6 Tryz.prog sort44_ren := {
  mixed := by kernel_rfl
  f6 := ⟨Tryz.f44.name, by decide, Tryz.func44.trans (congrArg some (by kernel_rfl))⟩
  f14 := ⟨Tryz.f61.name, by decide, Tryz.func61.trans (congrArg some (by kernel_rfl))⟩
  f15 := Tryz.func62.trans (congrArg some (by kernel_rfl))
  f20 := ⟨Tryz.f74.name, by decide, Tryz.func74.trans (congrArg some (by kernel_rfl))⟩
  f21 := ⟨Tryz.f75.name, by decide, Tryz.func75.trans (congrArg some (by kernel_rfl))⟩
  f22 := ⟨Tryz.f76.name, by decide, Tryz.func76.trans (congrArg some (by kernel_rfl))⟩
  f23 := ⟨Tryz.f77.name, by decide, Tryz.func77.trans (congrArg some (by kernel_rfl))⟩
  f24 := ⟨Tryz.f78.name, by decide, Tryz.func78.trans (congrArg some (by kernel_rfl))⟩
  f25 := ⟨Tryz.f79.name, by decide, Tryz.func79.trans (congrArg some (by kernel_rfl))⟩
  f26 := ⟨Tryz.f80.name, by decide, Tryz.func80.trans (congrArg some (by kernel_rfl))⟩
  f27 := ⟨Tryz.f81.name, by decide, Tryz.func81.trans (congrArg some (by kernel_rfl))⟩
  f28 := Tryz.func82.trans (congrArg some (by kernel_rfl))
  f29 := Tryz.func83.trans (congrArg some (by kernel_rfl))
  f46 := ⟨Tryz.f93.name, by decide, Tryz.func93.trans (congrArg some (by kernel_rfl))⟩
  f47 := Tryz.func94.trans (congrArg some (by kernel_rfl))
  f48 := Tryz.func95.trans (congrArg some (by kernel_rfl))
  f49 := ⟨Tryz.f96.name, by decide, Tryz.func96.trans (congrArg some (by kernel_rfl))⟩
  f50 := ⟨Tryz.f97.name, by decide, Tryz.func97.trans (congrArg some (by kernel_rfl))⟩
  f57 := ⟨Tryz.f105.name, by decide, Tryz.func105.trans (congrArg some (by kernel_rfl))⟩
  t0 := Tryz.underlying0
  a0 := Tryz.isAgg0
  z0 := Tryz.sizeOf0
  v0 := Tryz.zeroValue0
  t3 := Tryz.underlying3
  a3 := Tryz.isAgg3
  z3 := Tryz.sizeOf3
  v3 := Tryz.zeroValue3
  t4 := Tryz.underlying4
  a4 := Tryz.isAgg4
  z4 := Tryz.sizeOf4
  v4 := Tryz.zeroValue4
  t5 := Tryz.underlying5
  a5 := Tryz.isAgg5
  z5 := Tryz.sizeOf5
  v5 := Tryz.zeroValue5
  t9 := Tryz.underlying9
  a9 := Tryz.isAgg9
  z9 := Tryz.sizeOf9
  v9 := Tryz.zeroValue9
  t22 := Tryz.underlying48
  a22 := Tryz.isAgg48
  z22 := Tryz.sizeOf48
  v22 := Tryz.zeroValue48
  t25 := Tryz.underlying73
  a25 := Tryz.isAgg73
  z25 := Tryz.sizeOf73
  v25 := Tryz.zeroValue73
  t39 := Tryz.underlying83
  a39 := Tryz.isAgg83
  z39 := Tryz.sizeOf83
  v39 := Tryz.zeroValue83
  t45 := Tryz.underlying88
  a45 := Tryz.isAgg88
  z45 := Tryz.sizeOf88
  v45 := Tryz.zeroValue88
  t46 := Tryz.underlying89
  a46 := Tryz.isAgg89
  z46 := Tryz.sizeOf89
  v46 := Tryz.zeroValue89
  t50 := Tryz.underlying93
  a50 := Tryz.isAgg93
  z50 := Tryz.sizeOf93
  v50 := Tryz.zeroValue93
  t53 := Tryz.underlying96
  a53 := Tryz.isAgg96
  z53 := Tryz.sizeOf96
  v53 := Tryz.zeroValue96
  t55 := Tryz.underlying98
  a55 := Tryz.isAgg98
  z55 := Tryz.sizeOf98
  v55 := Tryz.zeroValue98
  t66 := Tryz.underlying107
  a66 := Tryz.isAgg107
  z66 := Tryz.sizeOf107
  v66 := Tryz.zeroValue107
  t70 := Tryz.underlying111
  a70 := Tryz.isAgg111
  z70 := Tryz.sizeOf111
  v70 := Tryz.zeroValue111
  t76 := Tryz.underlying126
  a76 := Tryz.isAgg126
  z76 := Tryz.sizeOf126
  v76 := Tryz.zeroValue126
  t77 := Tryz.underlying127
  a77 := Tryz.isAgg127
  z77 := Tryz.sizeOf127
  v77 := Tryz.zeroValue127 }
end Go.Proofs.YteoafohebgfjdaaGreatDoor
/-
  What has been told, sorted by its paths: plain, and how it lies.
-/
namespace Go.Proofs.YteoafohebgfjdaaGreatDoor
open Go.RowKit Go.Maps Go.Sort Go.Lib Go.Shelf
set_option maxRecDepth 100000

/-- A node that is told, whose path is no longer than a path may be. -/
structure FdB where
  fd : Fd
  few : fd.node.path.size ≤ 1000000
instance : Inhabited FdB := ⟨⟨⟨⟨⟨#[]⟩, 0, 0, 0, ⟨#[]⟩⟩, false⟩, by decide⟩⟩
def encF (x : FdB) : List Value := x.fd.cells.toList
def cfF (x y : FdB) : Int := cmpB x.fd.node y.fd.node
theorem encF_len (x : FdB) : (encF x).length = 6 := rfl

set_option maxHeartbeats 2000000 in
theorem closure_any (x y : FdB) (W : World) : Calls Tryz.prog 45 #[.agg x.fd.cells, .agg y.fd.cells] W fun e w' => e = .returned (.int .i64 (cfF x y)) ∧ ∃ q os', w' = grow (W.drewN q) os' := by
  obtain ⟨⟨⟨xp, xk, xm, xt, xd⟩, xo⟩, hx⟩ := x
  obtain ⟨⟨⟨yp, yk, ym, yt, yd⟩, yo⟩, hy⟩ := y
  simp only at hx hy
  have HC := fun W' => cmp_drew xp yp W' (by omega) (by omega)
  simp only [cfF, cmpB, toL, Fd.cells]
  clear hx hy
  generalize cmpL xp.data.toList yp.data.toList = r at HC ⊢
  go_enter Tryz.func45, Tryz.ntmps45
  go_wp2_with (go_at_call 46; refine (HC _).mono ?_; rintro e w' ⟨rfl, n, rfl⟩)
  go_ret
  exact ⟨rfl, n, _, by rw [alloc_eq_grow, alloc_eq_grow, grow_grow]; rfl⟩
theorem cmpLays_any (blk off size : Nat) (w : World) : CmpLays Tryz.prog 45 #[] encF 6 cfF blk off size w := fun _ _ _ _ x y => closure_any x y _
theorem ltF (x y : FdB) : ltOf cfF x y = true ↔ cmpB x.fd.node y.fd.node < 0 := decide_eq_true_iff
theorem ltF_not (x y : FdB) : ltOf cfF x y = false ↔ cmpB y.fd.node x.fd.node ≤ 0 := by
  rw [← Bool.not_eq_true, ltF, cmpB_swap x.fd.node y.fd.node]
  omega
theorem cfF_swo : SWO (ltOf cfF) where
  irrefl x := by rw [ltF_not, cmpB_self]; omega
  trans x y z h1 h2 := by rw [ltF] at *; exact cmpB_lt (by omega) h2
  ntrans x y z h1 h2 := by rw [ltF_not] at *; exact cmpL_trans _ _ _ h2 h1
theorem flat_cells (d : Array FdB) : (flatK encF 6 d).toList = cellsFd (d.toList.map (·.fd)) := by
  apply List.ext_getElem?
  intro j
  by_cases hj : j < d.size * 6
  · have hk : j / 6 < d.size := by omega
    have h1 := get_flatK encF 6 d j hj
    rw [getElem!_pos _ j (by rw [size_flatK]; exact hj), getElem!_pos d _ hk] at h1
    rw [Array.getElem?_toList, Array.getElem?_eq_getElem (by rw [size_flatK]; exact hj), h1]
    have h6 : j % 6 < (encF d[j / 6]).length := by rw [encF_len]; omega
    rw [getElem!_pos (encF d[j / 6]) (j % 6) h6]
    have h2 := cellsFd_get (d.toList.map (·.fd)) (j / 6) d[j / 6].fd (by simp [hk]) (j % 6) (encF d[j / 6])[j % 6] (by
      show d[j / 6].fd.cells[j % 6]? = _
      rw [← Array.getElem?_toList]
      exact List.getElem?_eq_getElem h6)
    rw [Nat.mul_comm, Nat.div_add_mod] at h2
    exact h2.symm
  · rw [List.getElem?_eq_none (by simp; omega), List.getElem?_eq_none (by rw [cellsFd_len]; simp; omega)]
theorem holds_own {w : World} {g : Nat} {cur : Array Value} {e : TypeId} {d : Array FdB} (hb : w.heap[g]? = some (.cells cur e (0, 0))) (ht : cur.toList.take (d.size * 6) = cellsFd (d.toList.map (·.fd))) : HoldsK encF 6 w g 0 d := by
  intro j hj
  have hj2 : j < d.size * 6 := by simpa using hj
  refine ⟨?_, by simp [World.frozen?, hb]⟩
  have h1 : (cur.toList.take (d.size * 6))[j]? = (flatK encF 6 d).toList[j]? := by rw [ht, flat_cells]
  rw [List.getElem?_take_of_lt hj2, Array.getElem?_toList (xs := flatK encF 6 d), Array.getElem?_eq_getElem hj] at h1
  simp only [World.cell?, hb, Nat.zero_add, Option.isSome_none, Bool.false_eq_true, if_false]
  rw [← Array.getElem?_toList, h1, getElem!_pos _ j hj]
  rfl
theorem take_put (cur F : Array Value) (h : F.size ≤ cur.size) : (putCells id 0 F cur).toList.take F.size = F.toList := by
  apply List.ext_getElem?
  intro j
  by_cases hj : j < F.size
  · rw [List.getElem?_take_of_lt hj, Array.getElem?_toList]
    simp [putCells, hj, show j < cur.size by omega]
  · rw [List.getElem?_take_eq_none (by omega), List.getElem?_eq_none (by simp; omega)]
theorem heap_sortK {w : World} {g n : Nat} {os : Array Obj} {cur : Array Value} {e : TypeId} {fr : Nat × Nat} (d : Array FdB) (hb : w.heap[g]? = some (.cells cur e fr)) :
    (sortWorldK encF 6 w g 0 n d os).heap[g]? = some (.cells (putCells id 0 (flatK encF 6 d) cur) e fr) := by
  have hg : g < w.heap.size := (Array.getElem?_eq_some_iff.1 hb).1
  unfold sortWorldK putRowK
  rw [heap_grow_old _ _ (by simpa using hg)]
  simp [putRow, mapBlock, Sort.ahead, Array.getElem?_modify, hb, onCells]
theorem grownBy_sortK {w : World} {g n : Nat} {os : Array Obj} (d : Array FdB) : w.grownBy (sortWorldK encF 6 w g 0 n d os) (some g) := by
  unfold sortWorldK putRowK
  refine ⟨rfl, rfl, rfl, by simp, fun k hk hne => ?_⟩
  rw [heap_grow_old _ _ (by simpa using hk)]
  have : g ≠ k := fun e => hne (by rw [e])
  simp [putRow, mapBlock, Sort.ahead, Array.getElem?_modify, this]
/-- Behind the sort the same slice owns the sorted list. -/
theorem own_sortK {w : World} {base g cap n : Nat} {e : TypeId} {os : Array Obj} {cur : Array Value} (d : Array FdB) (hbase : base ≤ g) (hb : w.heap[g]? = some (.cells cur e (0, 0))) (h1 : d.size ≤ cap) (h2 : cap ≤ maxLen) (h3 : cur.size = cap * 6) :
    (sortWorldK encF 6 w g 0 n d os).ownsRow base e 6 (.slice (some ⟨g, 0, none⟩) d.size cap) d.size (cellsFd (d.toList.map (·.fd))) :=
  ⟨by rw [cellsFd_len]; simp, .inr ⟨g, cap, _, rfl, hbase, heap_sortK d hb, h1, h2, by simp [putCells, h3], by
    rw [← flat_cells, ← take_put cur (flatK encF 6 d) (by rw [size_flatK, h3]; omega), size_flatK]⟩⟩
end Go.Proofs.YteoafohebgfjdaaGreatDoor
/-
  slices.SortFunc at what has been told.
-/
namespace Go.Proofs.YteoafohebgfjdaaGreatDoor
open Go.RowKit Go.Maps Go.Sort Go.Lib Go.Shelf
set_option maxRecDepth 100000

theorem sort_any {W : World} {base : Nat} {v : Value} {l : List Fd} (hown : W.ownsRow base 53 6 v l.length (cellsFd l)) (hf : ∀ f ∈ l, f.node.path.size ≤ 1000000) (hl : l.length ≤ 1000000) :
    Calls Tryz.prog 44 #[v, .func (.func 45) #[] #[]] W fun e w' => e = .returned (.tuple #[]) ∧ ∃ l', l'.Perm l ∧ (l'.Pairwise fun a b => cmpB a.node b.node ≤ 0) ∧ w'.ownsRow base 53 6 v l'.length (cellsFd l') ∧ W.grownBy w' v.ownBlock := by
  rcases hown.2 with ⟨rfl, h0⟩ | ⟨g, cap, cur, rfl, hbase, hb, h1, h2, h3, h4⟩
  · obtain rfl : l = [] := List.length_eq_zero_iff.1 h0
    have hcon := AnyF.slices_SortFunc_none sort44 none 0 (.func (.func 45) #[] #[]) W
    change Calls Tryz.prog 44 _ _ _ at hcon
    refine hcon.mono ?_
    rintro e w' ⟨rfl, rfl⟩
    exact ⟨rfl, [], List.Perm.refl _, List.Pairwise.nil, hown, ⟨rfl, rfl, rfl, Nat.le_refl _, fun _ _ _ => rfl⟩⟩
  · obtain ⟨d, hd⟩ : ∃ d : Array FdB, d.toList.map (·.fd) = l := ⟨(l.pmap FdB.mk hf).toArray, by simp [List.map_pmap]⟩
    have hds : d.size = l.length := by rw [← hd]; simp
    have eg : ∀ args w, (callFunc 45 args).run Tryz.prog w = .ok (.enter 45 args) w := enters_of Tryz.func45 (by kernel_rfl) rfl
    have hcon := AnyQ.slices_SortFunc sort44 6 Tryz.isAgg53 Tryz.sizeOf53 encF encF_len (fun x => cellsFd_one x.fd) cfF cfF_swo 45 #[] g 0 cap d W eg (cmpLays_any _ _ _ _) (holds_own hb (by rw [hd, hds]; exact h4)) (Array.getElem?_eq_some_iff.1 hb).1 (by omega)
    change Calls Tryz.prog 44 _ _ _ at hcon
    rw [hds] at hcon
    refine hcon.mono ?_
    rintro e w' ⟨rfl, d', n, os, hp, hs, rfl⟩
    have hsz : d'.size = d.size := hp.1
    have hpp := hp.2.2
    rw [← hds, Array.extract_size, show d.size = d'.size from hsz.symm, Array.extract_size] at hpp
    have hlen : d'.size = l.length := by rw [hsz, hds]
    have hll : (d'.toList.map (·.fd)).length = l.length := by simp [hlen]
    refine ⟨rfl, d'.toList.map (·.fd), by rw [← hd]; exact hpp.map _, ?_, ?_, grownBy_sortK d'⟩
    · rw [List.pairwise_map, List.pairwise_iff_getElem]
      intro i j hi hj hij
      have hi2 : i < d'.size := by simpa using hi
      have hj2 : j < d'.size := by simpa using hj
      have h5 := hs i j (Nat.zero_le _) hij (by omega)
      rw [getElem!_pos d' i hi2, getElem!_pos d' j hj2, ltF_not] at h5
      exact h5
    · rw [hll]
      have h6 := own_sortK (w := W) (n := n) (os := os) d' hbase hb (by omega) h2 h3
      rw [hlen] at h6
      exact h6
end Go.Proofs.YteoafohebgfjdaaGreatDoor
/-
  mirror.walk.
-/
namespace Go.Proofs.YteoafohebgfjdaaGreatDoor
open Go.RowKit Go.Maps
set_option maxRecDepth 100000

/-- What is told of a mirror, in the order of paths. -/
structure Told (V : Ns → Pl) (l : List Fd) : Prop where
  mem : ∃ K, KS V false [] (fun _ => True) K ∧ l.Perm (K.map (emit V))
  sorted : l.Pairwise fun a b => cmpB a.node b.node ≤ 0
  few : ∀ f ∈ l, f.node.path.size ≤ 1000000 ∧ f.node.data.size ≤ 1000000
/-- What stands there is no longer than a node may be. -/
def FewV (LL : Bd) (V : Ns → Pl) : Prop := ∀ P ∈ LL.paths, ((V P).s.path.size ≤ 1000000 ∧ (V P).s.data.size ≤ 1000000) ∧ (V P).d.path.size ≤ 1000000 ∧ (V P).d.data.size ≤ 1000000
theorem Told.fewN {V : Ns → Pl} {l : List Fd} (h : Told V l) : FewN (l.map (·.node)) := fun k n hn => by
  obtain ⟨f, hf, rfl⟩ := List.mem_map.1 (List.mem_of_getElem? hn)
  have := h.few f hf
  omega
theorem emit_few {V : Ns → Pl} {LL : Bd} (hsz : FewV LL V) {K : List (Ns × Bool)} (h : KsOk LL K) : ∀ f ∈ K.map (emit V), f.node.path.size ≤ 1000000 ∧ f.node.data.size ≤ 1000000 := fun f hf => by
  obtain ⟨k, hk, rfl⟩ := List.mem_map.1 hf
  have := hsz _ (h.mem k hk)
  unfold emit
  split
  · exact this.2
  · exact this.1

set_option maxHeartbeats 8000000 in
theorem walk_any {w : World} {B : Nat} {LL : Bd} {A : Where} {V : Ns → Pl} (hp : PT w B LL A V) (hfew : LL.paths.length ≤ 100000) (hdeep : ∀ P ∈ LL.paths, P.length ≤ 16) (hsz : FewV LL V) (q : Nat × Nat) (hq : A [] = some q) :
    Calls Tryz.prog 27 #[.pointer (some ⟨q.1, 0, none⟩)] w fun e w' => ∃ v l, e = .returned v ∧ Told V l ∧ l.length ≤ LL.paths.length ∧ Below w.heap.size w w' ∧ w'.ownsRow w.heap.size 53 6 v l.length (cellsFd l) := by
  have HU := hide (fun (W : World) (hW : WI w [] W) => under_any hp hfew hdeep 17 [] q false [] W hq (by simp) hW ⟨List.Pairwise.nil, fun k hk => by cases hk⟩ (fun k hk => by cases hk))
  have HE := fun K (h : KsOk LL K) => emit_few hsz h
  have HF := fun K (h : KsOk LL K) => h.few
  have HE := hide HE
  have HF := hide HF
  have hsf := fun (a : Addr) (f : Fn) (ts cs : Array Value) (m : Mode) (W : World) => run_store Tryz.prog W a (.func f ts cs) m rfl
  clear hp hdeep hsz hq
  go_enter Tryz.func27, Tryz.ntmps27
  go_wp2_with fail
  have hWI : WI w [] ((w.alloc (.cells #[.slice none 0 0] 48)).alloc (.cells #[underV w.heap.size] 68)) := by
    have h0 := World.alloc_heap_new w (Obj.cells #[.slice none 0 0] 48)
    have h1 := World.alloc_heap_new (w.alloc (Obj.cells #[.slice none 0 0] 48)) (Obj.cells #[underV w.heap.size] 68)
    have hb := (Below.refl w.heap.size w).alloc (Nat.le_refl _) (.cells #[.slice none 0 0] 48)
    have hb2 := (Below.refl (w.alloc (Obj.cells #[.slice none 0 0] 48)).heap.size (w.alloc (Obj.cells #[.slice none 0 0] 48))).alloc (Nat.le_refl _) (.cells #[underV w.heap.size] 68)
    rw [show (w.alloc (Obj.cells #[.slice none 0 0] 48)).heap.size = w.heap.size + 1 from by simp] at h1
    exact ⟨hb.trans (hb2.mono hb.size), ⟨none, 0, (hb2.block _ (by simp)).trans h0, rfl, .inl ⟨rfl, rfl⟩⟩, h1⟩
  unfold underV at hWI
  refine (HU.out _ hWI).mono ?_
  rintro e w2 ⟨K, rfl, hK, hO, h2, -⟩
  rw [List.nil_append] at hO h2
  obtain ⟨E, c, y0, hown⟩ := h2.out
  have HSo := hide (sort_any hown (fun f hf => (HE.out K hO f hf).1) (by have := HF.out K hO; rw [List.length_map]; omega))
  have HB := hide h2.below
  have HK := hide (And.intro hK (And.intro (HF.out K hO) (HE.out K hO)))
  have y1 := cell_of_row _ _ 0 _ _ _ y0
  have HY := hide (And.intro y0 hown.lt)
  clear hWI hK hO h2 hown y0 HU HE HF hsf
  obtain ⟨l, hl⟩ : ∃ l, l = K.map (emit V) := ⟨_, rfl⟩
  rw [← hl] at HSo HY y1
  have HKl := hide hl
  clear hl
  go_wp2_with fail
  refine HSo.out.mono ?_
  rintro e w3 ⟨rfl, l', hp, hs, ho, hg⟩
  have y2 := (hg.block _ (Array.getElem?_eq_some_iff.1 HY.out.1).1 (fun e => by have := (HY.out.2 _ e.symm).1; omega)).trans HY.out.1
  have y1 := cell_of_row _ _ 0 _ _ _ y2
  go_wp2_with fail
  refine bodyPost_ret (results_tmp rfl _ _ _) rfl ?_
  have hlen := hp.length_eq
  exact ⟨_, l', rfl, ⟨⟨K, HK.out.1, HKl.out ▸ hp⟩, hs, fun x hx => HK.out.2.2 x (HKl.out ▸ hp.mem_iff.1 hx)⟩, by have := HK.out.2.1; have := congrArg List.length HKl.out; rw [List.length_map] at this; omega, HB.out.grown hg HB.out.size (fun k e => by have := (HY.out.2 k e).1; omega), ownsRow_lowerN ho (by omega)⟩
end Go.Proofs.YteoafohebgfjdaaGreatDoor
/-
  What a range over a function in a loop leaves behind: marks among the deferred calls; a plain loop inside a fence.
-/
namespace Go.Proofs.YteoafohebgfjdaaGreatDoor
open Go.RowKit Go.Maps
set_option maxRecDepth 100000

/-- A block that is no place's. -/
def Clear (A : Where) (k : Nat) (w : World) : Prop := k < w.heap.size ∧ ¬ Own A k
theorem Clear.step {A A' : Where} {k : Nat} {w w' : World} (h : Clear A k w) (hf : Fr A w w') (hx : Ext A A' w.heap.size) : Clear A' k w' ∧ w'.heap[k]? = w.heap[k]? :=
  ⟨⟨Nat.lt_of_lt_of_le h.1 hf.size, fun ho => by
    rcases hx.own ho with h2 | h2
    · exact h.2 h2
    · have := h.1; omega⟩, hf.block k h.1 h.2⟩
theorem Clear.below {A : Where} {k : Nat} {w w' : World} (h : Clear A k w) (hb : Below w.heap.size w w') : Clear A k w' ∧ w'.heap[k]? = w.heap[k]? :=
  ⟨⟨Nat.lt_of_lt_of_le h.1 hb.size, h.2⟩, hb.block k h.1⟩
/-- The marks. -/
structure Mk (A : Where) (b : Nat) (ds : List Deferred) (W : World) : Prop where
  all : ∀ d ∈ ds, ∃ D, d = { target := .collected D, args := #[] } ∧ b ≤ D ∧ Clear A D W ∧ W.heap[D]? = some (.deferred (some []))
  apart : ds.Pairwise fun x y => x ≠ y
theorem Mk.nil (A : Where) (b : Nat) (W : World) : Mk A b [] W := ⟨fun _ hd => (List.not_mem_nil hd).elim, List.Pairwise.nil⟩
theorem Mk.step {A A' : Where} {b : Nat} {ds : List Deferred} {w w' : World} (h : Mk A b ds w) (hf : Fr A w w') (hx : Ext A A' w.heap.size) : Mk A' b ds w' :=
  ⟨fun d hd => by
    obtain ⟨D, e, hb, hc, hr⟩ := h.all d hd
    have := hc.step hf hx
    exact ⟨D, e, hb, this.1, this.2.trans hr⟩, h.apart⟩
theorem Mk.below {A : Where} {b : Nat} {ds : List Deferred} {w w' : World} (h : Mk A b ds w) (hb : Below w.heap.size w w') : Mk A b ds w' := h.step (Fr.of_below hb) (Ext.refl A _)
/-- All that isn't one of some blocks stays. -/
theorem Mk.grown {A : Where} {b : Nat} {ds : List Deferred} {w w' : World} {row : Option Nat} (h : Mk A b ds w) (hg : w.grownBy w' row) (hne : ∀ d ∈ ds, ∀ D, d = { target := .collected D, args := #[] } → some D ≠ row) : Mk A b ds w' :=
  ⟨fun d hd => by
    obtain ⟨D, e, hb, hc, hr⟩ := h.all d hd
    exact ⟨D, e, hb, ⟨Nat.lt_of_lt_of_le hc.1 hg.size, hc.2⟩, (hg.block D hc.1 (hne d hd D e)).trans hr⟩, h.apart⟩
theorem Mk.more {A : Where} {b : Nat} {ds : List Deferred} {w : World} (h : Mk A b ds w) {D : Nat} (hb : b ≤ D) (hc : Clear A D w) (hr : w.heap[D]? = some (.deferred (some []))) (hn : ∀ d ∈ ds, d ≠ { target := .collected D, args := #[] }) : Mk A b ({ target := .collected D, args := #[] } :: ds) w :=
  ⟨fun d hd => by
    rcases List.mem_cons.1 hd with rfl | hd
    · exact ⟨D, rfl, hb, hc, hr⟩
    · exact h.all d hd, List.pairwise_cons.2 ⟨fun d hd e => hn d hd e.symm, h.apart⟩⟩
/-- The places, and all below. -/
def Fin (LL : Bd) (w : World) (A : Where) (V : Ns → Pl) (W : World) : Prop := PT W w.heap.size LL A V ∧ Below w.heap.size w W
theorem leaves_marks {LL : Bd} {w : World} {A : Where} {V : Ns → Pl} {F : Fence} {n : Nat} {P : Program} {fn : Func} {tmps : Array Value} {R : Ending → World → Prop} : ∀ (ds : List Deferred) (W : World), Mk A w.heap.size ds W → Fin LL w A V W →
    (∀ W', Fin LL w A V W' → LeavesInM F n P fn tmps R [] .returning W') → LeavesInM F n P fn tmps R ds .returning W
  | [], W, _, hf, h => h W hf
  | d :: ds, W, hm, hf, h => by
    obtain ⟨D, rfl, hb, hc, hr⟩ := hm.all d List.mem_cons_self
    obtain ⟨hap, hap2⟩ := List.pairwise_cons.1 hm.apart
    refine ⟨by simp, .inl ⟨D, _, rfl, run_takeDeferred hr, ?_⟩⟩
    have hg := grownBy_putObj' W D (.deferred none)
    refine leaves_marks ds _ (Mk.grown ⟨fun e he => hm.all e (List.mem_cons_of_mem _ he), hap2⟩ hg (fun e he E e2 e3 => ?_)) ⟨hf.1.same fun k hk => World.putObj_heap_other (fun e => hc.2 (e ▸ hk)), hf.2.grown hg hf.2.size (fun r e => by cases e; exact hb)⟩ h
    injection e3 with e3
    subst e3
    exact hap e he e2.symm
end Go.Proofs.YteoafohebgfjdaaGreatDoor
