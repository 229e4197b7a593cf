/-
  Texts that belong together: MiExample, MiBlk, MiIdx, MiDel, MiBlocked, NodesB, MkSame.
-/
import Derived.Test.YteoafohebgfjdaaGreatDoorAutoMiOf
import Derived.Test.YteoafohebgfjdaaGreatDoorAutoMiOurs
import Derived.Test.YteoafohebgfjdaaGreatDoorMiPick
import Derived.Test.YteoafohebgfjdaaGreatDoorAutoMiPlainMath
import Derived.Test.YteoafohebgfjdaaGreatDoorAutoNodesOwn
import Derived.Test.YteoafohebgfjdaaGreatDoorAutoCutB
import Derived.Test.YteoafohebgfjdaaGreatDoorAutoRefCore
/-
  The page's example: plain.
-/
namespace Go.Proofs.YteoafohebgfjdaaGreatDoor
open Go.RowKit
set_option maxRecDepth 100000

def exS : List Nd := [⟨⟨#[97]⟩, 2, 0, 0, ⟨#[]⟩⟩]
def exD : List Nd := [⟨⟨#[97]⟩, 1, 0, 0, ⟨#[]⟩⟩, ⟨⟨#[97, 47, 120]⟩, 2, 0, 0, ⟨#[]⟩⟩]
theorem exS_tree : treeL exS = exS := by kernel_rfl
theorem exD_tree : treeL exD = exD := by kernel_rfl
theorem exS_tw : TW exS := by
  have := TW.tree (l := exS) (by kernel_rfl)
  rwa [exS_tree] at this
theorem exD_tw : TW exD := by
  have := TW.tree (l := exD) (by kernel_rfl)
  rwa [exD_tree] at this
theorem exS_shown : shownL exS = exS := by kernel_rfl
theorem exD_shown : shownL exD = exD := by kernel_rfl
/-- With deletion: the sender's. -/
theorem ex_del {l : List Fd} (ht : Told (layV (sentL [] exS) (shownL exD) (guardL [] exD) true) l) : l.map (·.node) = exS := by
  rw [plain_is exS_tw exD_tw ht, exS_shown]
theorem ex_ours {del : Bool} {l : List Fd} (ht : Told (layV (sentL [] exS) (shownL exD) (guardL [] exD) del) l) {f : Fd} (hf : f ∈ l) : if f.ours = true then f.node ∈ exS else f.node ∈ exD := by
  have h := laid_trees [] del exS_tw exD_tw
  rw [sent_nil, exS_shown, exD_shown] at h ht
  obtain ⟨P, t, hP, hr, rfl⟩ := (ht.iff f).1 hf
  have := (emit_in h exD_tw (by rw [guard_nil]; exact fun g hg => (List.not_mem_nil hg).elim) hP hr).2
  cases t
  · exact this
  · exact this
/-- Without deletion: nothing is the sender's. -/
theorem ex_none {l : List Fd} (ht : Told (layV (sentL [] exS) (shownL exD) (guardL [] exD) false) l) : ∀ f ∈ l, f.ours = false := fun f hf => by
  have h := laid_trees [] false exS_tw exD_tw
  rw [sent_nil, exS_shown, exD_shown, guard_nil] at h ht
  obtain ⟨P, t, hP, hr, rfl⟩ := (ht.iff f).1 hf
  cases t
  · exfalso
    have he := rr_end hP hr
    obtain ⟨h1, h2⟩ := h.ours_in he
    have hs : (layV exS exD [] false P).s = ⟨⟨#[97]⟩, 2, 0, 0, ⟨#[]⟩⟩ := by simpa [exS] using h1
    have hd := h.dIn ⟨⟨#[97]⟩, 1, 0, 0, ⟨#[]⟩⟩ (by simp [exD])
    have hP2 : nmN ⟨⟨#[97]⟩, 1, 0, 0, ⟨#[]⟩⟩ = P := by rw [← h2, hs]; rfl
    rw [hP2] at hd
    have hl := (h.left_iff exD_tw (fun g hg => (List.not_mem_nil hg).elim) hP).2 ⟨_, List.mem_cons_self, hP2, .inl rfl⟩
    rcases ((oursV_iff _).1 he).2.2 with h3 | h3 | h3
    · rw [hs] at h3; cases h3
    · rw [hd] at h3; exact h3 rfl
    · rw [hl] at h3; cases h3
  · rfl
/-- Without deletion: the receiver's. -/
theorem ex_keep {l : List Fd} (ht : Told (layV (sentL [] exS) (shownL exD) (guardL [] exD) false) l) : l.map (·.node) = exD := by
  have hno := ex_none ht
  have hin := fun f (hf : f ∈ l) => ex_ours ht hf
  have h := laid_trees [] false exS_tw exD_tw
  rw [sent_nil, exS_shown, exD_shown, guard_nil] at h ht
  have hG : ∀ g ∈ ([] : List Nd), g ∈ exD := fun g hg => (List.not_mem_nil hg).elim
  refine sorted_ext (ht.sortedN h exS_tw exD_tw hG) exD_tw.sorted fun n => ?_
  rw [List.mem_map]
  constructor
  · rintro ⟨f, hf, rfl⟩
    have := hin f hf
    rw [hno f hf] at this
    exact this
  · intro hn
    have hP : nmN n ≠ [] := by rw [nm_cut (exD_tw.rights n hn)]; exact exD_tw.named n hn
    obtain ⟨t, hr⟩ := rr_left h exD_tw hG ((h.left_iff exD_tw hG hP).2 ⟨n, hn, rfl, .inl rfl⟩)
    have hf := (ht.iff _).2 ⟨nmN n, t, hP, hr, rfl⟩
    have := hno _ hf
    cases t
    · cases this
    · exact ⟨_, hf, h.dIn n hn⟩
end Go.Proofs.YteoafohebgfjdaaGreatDoor
/-
  mirror.Blocked's closure: whether the mirror's node of that path is the sender's.
-/
namespace Go.Proofs.YteoafohebgfjdaaGreatDoor
open Go.RowKit Go.Maps
set_option maxRecDepth 100000

/-- What a map of told nodes holds. -/
def heldF (m : ByteArray → Option Fd) : ByteArray → Option Value := fun p => (m p).map fun f => .agg f.cells
def oursIn (m : ByteArray → Option Fd) (p : ByteArray) : Bool := match m p with
  | some f => f.ours
  | none => false
theorem zero_fd (w : World) : (zeroValue 53).run Tryz.prog w = .ok (.agg #[.string ⟨#[]⟩, .int .i64 0, .int .i64 0, .int .i64 0, .string ⟨#[]⟩, .bool false]) w := Tryz.zeroValue53 w

theorem field_fd (a : ByteArray) (k mo ti : Int) (d : ByteArray) (o : Bool) (W : World) : (Instr.field 53 (.agg #[.string a, .int .i64 k, .int .i64 mo, .int .i64 ti, .string d, .bool o]) 1).run Tryz.prog W = .ok (.bool o) W := by kernel_rfl
set_option maxHeartbeats 2000000 in
theorem blk1_any (g b : Nat) (L : List ByteArray) (m : ByteArray → Option Fd) (n : Nd) (w : World) (hg : w.heap[g]? = some (.cells #[.map (some b)] 58 (0, 0))) (hm : MapIs w b L (heldF m)) (hs : n.path.size ≤ 1000000) :
    Calls Tryz.prog 33 #[.agg n.cells, .pointer (some ⟨g, 0, none⟩)] w fun e w' => e = .returned (.bool (oursIn m n.path)) ∧ Below w.heap.size w w' := by
  obtain ⟨path, kind, mode, time, data⟩ := n
  have hB0 : Below w.heap.size w (w.alloc (.cells #[.string path, .int .i64 kind, .int .i64 mode, .int .i64 time, .string data] 36)) := (Below.refl _ w).alloc (Nat.le_refl _) _
  have HB := hide hB0
  have c0 := cell_of_row _ _ 0 _ _ _ ((hB0.block _ (Array.getElem?_eq_some_iff.1 hg).1).trans hg)
  have hm1 := hm.kept (grownBy_below hB0) (by intro e; cases e)
  have hlk := hm1.look (t := 58) (e := 53) Tryz.underlying58 (zero_fd _) path (by show path.size ≤ maxLen; unfold maxLen; simp only at hs; omega)
  have hfd := field_fd
  simp only [Nd.cells]
  clear hB0 hg hm hm1
  cases hmp : m path with
  | none =>
    have HV := hide (show oursIn m path = false by unfold oursIn; rw [hmp])
    have hk : heldF m path = none := by unfold heldF; rw [hmp]; rfl
    rw [hk] at hlk
    go_enter Tryz.func33, Tryz.ntmps33
    go_wp2_with fail
    exact bodyPost_ret (results_tmp rfl _ _ _) rfl ⟨by rw [HV.out]; rfl, HB.out⟩
  | some f =>
    have HV := hide (show oursIn m path = f.ours by unfold oursIn; rw [hmp])
    have hk : heldF m path = some (.agg f.cells) := by unfold heldF; rw [hmp]; rfl
    rw [hk] at hlk
    obtain ⟨⟨a0, a1, a2, a3, a4⟩, a5⟩ := f
    simp only [Fd.cells] at hlk HV
    go_enter Tryz.func33, Tryz.ntmps33
    go_wp2_with fail
    exact bodyPost_ret (results_tmp rfl _ _ _) rfl ⟨by rw [HV.out]; rfl, HB.out⟩
end Go.Proofs.YteoafohebgfjdaaGreatDoor
/-
  slices.IndexFunc over mirror.Blocked's closure, of one node.
-/
namespace Go.Proofs.YteoafohebgfjdaaGreatDoor
open Go.RowKit Go.Maps
set_option maxRecDepth 100000

set_option maxHeartbeats 4000000 in
theorem idx1_any (g : Nat) (A : Option Addr) (c : Nat) (n : Nd) (x : Bool) (w : World) (hA : RdN w w.heap.size A [n])
    (HC : ∀ W, Below w.heap.size w W → Calls Tryz.prog 33 #[.agg n.cells, .pointer (some ⟨g, 0, none⟩)] W fun e w' => e = .returned (.bool x) ∧ Below W.heap.size W w') :
    Calls Tryz.prog 29 #[.slice A 1 c, .func (.func 33) #[] #[.pointer (some ⟨g, 0, none⟩)]] w fun e w' => e = .returned (.int .i64 (if x = true then 0 else -1)) ∧ Below w.heap.size w w' := by
  obtain ⟨ad, rfl, hlt, hnd⟩ := hA 0 n rfl
  rw [show ad.add (0 * 5) = ad from rfl] at hnd
  obtain ⟨c0, c1, c2, c3, c4⟩ := hnd
  obtain ⟨path, kind, mode, time, data⟩ := n
  have HCC := hide HC
  simp only [Nd.cells] at c0 c1 c2 c3 c4 HCC
  clear hA HC hlt
  cases x with
  | true =>
    go_enter Tryz.func29, Tryz.ntmps29
    go_wp2_with fail
    refine wp_loop_rounds 1 ?_
    rw [rounds_succ]
    go_wp2_with fail
    refine (HCC.out w (Below.refl _ _)).mono ?_
    rintro e w1 ⟨rfl, hb1⟩
    go_wp2_with fail
    exact bodyPost_ret (results_tmp rfl _ _ _) rfl ⟨rfl, hb1⟩
  | false =>
    go_enter Tryz.func29, Tryz.ntmps29
    go_wp2_with fail
    refine wp_loop_rounds 2 ?_
    rw [rounds_succ]
    go_wp2_with fail
    refine (HCC.out w (Below.refl _ _)).mono ?_
    rintro e w1 ⟨rfl, hb1⟩
    go_wp2_with fail
    rw [rounds_succ]
    go_wp2_with fail
    exact bodyPost_ret (results_tmp rfl _ _ _) rfl ⟨rfl, hb1⟩
end Go.Proofs.YteoafohebgfjdaaGreatDoor
/-
  slices.DeleteFunc over mirror.Blocked's closure, of one node.
-/
namespace Go.Proofs.YteoafohebgfjdaaGreatDoor
open Go.RowKit Go.Maps Go.Lib
set_option maxRecDepth 100000

theorem grown_setCellsN (w : World) (g o : Nat) (vs : List Value) : w.grownBy (w.setCells g o vs) (some g) := by
  induction vs generalizing w o with
  | nil => exact World.grownBy.refl w _
  | cons v r ih =>
    have h1 : w.grownBy (w.setCell ⟨g, o, none⟩ v) (some g) := ⟨rfl, rfl, rfl, by simp [World.setCell], fun k _ hk => Below.heap_setCell w ⟨g, o, none⟩ v k (fun e => hk (by rw [e]))⟩
    have h2 := ih (w.setCell ⟨g, o, none⟩ v) (o + 1)
    exact ⟨h2.os.trans h1.os, h2.tape.trans h1.tape, h2.output.trans h1.output, Nat.le_trans h1.size h2.size, fun k hk hne => (h2.block k (Nat.lt_of_lt_of_le hk h1.size) hne).trans (h1.block k hk hne)⟩
def zerosN : List Value := [.string ⟨#[]⟩, .int .i64 0, .int .i64 0, .int .i64 0, .string ⟨#[]⟩]
theorem run_clear_node (w : World) (ty : TypeId) (b c : Nat) (cur : Array Value) (hcur : w.heap[b]? = some (.cells cur 36 (0, 0))) (hlen : 5 ≤ cur.size) :
    (Builtin.clear_ #[22] ty #[.slice (some ⟨b, 0, none⟩) 1 c]).run Tryz.prog w = .ok (.tuple #[]) (w.setCells b 0 zerosN) := by
  have hst := run_storeCells_cells (P := Tryz.prog) b 0 zerosN 0 w (fun j hj => by
    have hj : j < 5 := hj
    have : j < cur.size := by omega
    simp [World.cell?, hcur, this]) (fun j _ => by simp [World.frozen?, hcur]) (fun v hv => by
    simp [zerosN] at hv
    rcases hv with rfl | rfl | rfl <;> rfl)
  simp only [Nat.add_zero] at hst
  have hz := Tryz.zeroValue36
  have hu := run_underlying (P := Tryz.prog) Tryz.underlying22
  have hzc : (Builtin.zeroCells (Value.cells (.agg #[.string ⟨#[]⟩, .int .i64 0, .int .i64 0, .int .i64 0, .string ⟨#[]⟩])) 1).toList = zerosN := by kernel_rfl
  simp [Builtin.clear_, hu, hz, hzc, hst]

set_option maxHeartbeats 4000000 in
theorem del0_any (g : Nat) (A : Option Addr) (c : Nat) (n : Nd) (w : World) (hA : RdN w w.heap.size A [n])
    (HC : ∀ W, Below w.heap.size w W → Calls Tryz.prog 33 #[.agg n.cells, .pointer (some ⟨g, 0, none⟩)] W fun e w' => e = .returned (.bool false) ∧ Below W.heap.size W w') :
    Calls Tryz.prog 31 #[.slice A 1 c, .func (.func 33) #[] #[.pointer (some ⟨g, 0, none⟩)]] w fun e w' => e = .returned (.slice A 1 c) ∧ Below w.heap.size w w' := by
  have HI := hide (idx1_any g A c n false w hA HC)
  clear hA HC
  go_enter Tryz.func31, Tryz.ntmps31
  go_wp2_with fail
  refine HI.out.mono ?_
  rintro e w1 ⟨rfl, hb1⟩
  rw [if_neg (by decide)]
  go_wp2_with fail
  exact bodyPost_ret (results_tmp rfl _ _ _) rfl ⟨rfl, hb1⟩

set_option maxHeartbeats 4000000 in
theorem del1_any (g : Nat) (b c : Nat) (hc : 1 ≤ c) (n : Nd) (w : World) (cur : Array Value) (hcur : w.heap[b]? = some (.cells cur 36 (0, 0))) (hlen : 5 ≤ cur.size) (hA : RdN w w.heap.size (some ⟨b, 0, none⟩) [n])
    (HC : ∀ W, Below w.heap.size w W → Calls Tryz.prog 33 #[.agg n.cells, .pointer (some ⟨g, 0, none⟩)] W fun e w' => e = .returned (.bool true) ∧ Below W.heap.size W w') :
    Calls Tryz.prog 31 #[.slice (some ⟨b, 0, none⟩) 1 c, .func (.func 33) #[] #[.pointer (some ⟨g, 0, none⟩)]] w fun e w' => e = .returned (.slice (some ⟨b, 0, none⟩) 0 c) ∧ w.grownBy w' (some b) := by
  have HI := hide (show Calls Tryz.prog 29 #[.slice (some ⟨b, 0, none⟩) 1 c, .func (.func 33) #[] #[.pointer (some ⟨g, 0, none⟩)]] w fun e w' => e = .returned (.int .i64 0) ∧ Below w.heap.size w w' from idx1_any g (some ⟨b, 0, none⟩) c n true w hA HC)
  clear hA HC
  go_enter Tryz.func31, Tryz.ntmps31
  go_wp2_with fail
  refine HI.out.mono ?_
  rintro e w1 ⟨rfl, hb1⟩
  go_wp2_with fail
  have hcl := fun ty => run_clear_node w1 ty b c cur ((hb1.block _ (Array.getElem?_eq_some_iff.1 hcur).1).trans hcur) hlen
  refine wp_loop_rounds 1 ?_
  rw [rounds_succ]
  go_wp2_with fail
  refine bodyPost_ret (results_tmp rfl _ _ _) rfl ⟨rfl, ?_⟩
  have h2 := grown_setCellsN w1 b 0 zerosN
  exact ⟨h2.os.trans hb1.os, h2.tape.trans hb1.tape, h2.output.trans hb1.output, Nat.le_trans hb1.size h2.size, fun k hk hne => (h2.block k (Nat.lt_of_lt_of_le hk hb1.size) hne).trans (hb1.block k hk)⟩
end Go.Proofs.YteoafohebgfjdaaGreatDoor
/-
  mirror.Blocked, where one node is sent.
-/
namespace Go.Proofs.YteoafohebgfjdaaGreatDoor
open Go.RowKit Go.Maps
set_option maxRecDepth 100000

/-- The last one of each path. -/
def ptF (m : ByteArray → Option Fd) (f : Fd) : ByteArray → Option Fd := fun q => if q = f.node.path then some f else m q
def mapF (l : List Fd) : ByteArray → Option Fd := l.foldl ptF fun _ => none
theorem mapF_snoc (l : List Fd) (f : Fd) : mapF (l ++ [f]) = ptF (mapF l) f := by simp [mapF]
theorem held_put (m : ByteArray → Option Fd) (f : Fd) : setF (heldF m) f.node.path (.agg f.cells) = heldF (ptF m f) := by
  funext q
  unfold setF heldF ptF
  by_cases h : q = f.node.path
  · rw [if_pos h, if_pos h]; rfl
  · rw [if_neg h, if_neg h]
theorem mapF_in (p : ByteArray) (f : Fd) : ∀ l : List Fd, mapF l p = some f → f ∈ l ∧ f.node.path = p := fun l => by
  refine snoc_ind (p := fun l => mapF l p = some f → f ∈ l ∧ f.node.path = p) (fun h => by cases h) (fun l x ih h => ?_) l.length l rfl
  rw [mapF_snoc] at h
  unfold ptF at h
  by_cases hp : p = x.node.path
  · rw [if_pos hp] at h
    injection h with h
    subst h
    exact ⟨by simp, hp.symm⟩
  · rw [if_neg hp] at h
    have := ih h
    exact ⟨by simp [this.1], this.2⟩
theorem mapF_has (p : ByteArray) : ∀ l : List Fd, (∃ f ∈ l, f.node.path = p) → ∃ f, mapF l p = some f := fun l => by
  refine snoc_ind (p := fun l => (∃ f ∈ l, f.node.path = p) → ∃ f, mapF l p = some f) (fun ⟨f, h, _⟩ => by cases h) (fun l x ih h => ?_) l.length l rfl
  rw [mapF_snoc]
  unfold ptF
  by_cases hp : p = x.node.path
  · exact ⟨x, by rw [if_pos hp]⟩
  · rw [if_neg hp]
    obtain ⟨f, hf, e⟩ := h
    rcases List.mem_append.1 hf with hf | hf
    · exact ih ⟨f, hf, e⟩
    · exact absurd (by rw [List.mem_singleton.1 hf] at e; exact e.symm) hp
/-- The told nodes, and the map that is made of them. -/
structure BI (w : World) (X : Nat) (E : Option Addr) (cE : Nat) (l : List Fd) (j : Nat) (W : World) : Prop where
  below : Below w.heap.size w W
  map : MapIs W w.heap.size (l.map (·.node.path)) (heldF (mapF (l.take j)))
  row : W.heap[w.heap.size + 1]? = some (.cells #[.map (some w.heap.size)] 58 (0, 0))
  own : W.ownsRow X 53 6 (.slice E l.length cE) l.length (cellsFd l)
  base : w.heap.size + 2 ≤ X
theorem BI.step {w W W' : World} {X : Nat} {E : Option Addr} {cE j : Nat} {l : List Fd} (h : BI w X E cE l j W) (hb : Below W.heap.size W W') : BI w X E cE l j W' :=
  ⟨h.below.trans (hb.mono h.below.size), h.map.kept (grownBy_below hb) (by intro e; cases e), (hb.block _ (Array.getElem?_eq_some_iff.1 h.row).1).trans h.row, own_below h.own hb, h.base⟩
/-- One more is laid. -/
theorem BI.put {w W : World} {X : Nat} {E : Option Addr} {cE j : Nat} {l : List Fd} (h : BI w X E cE l j W) {f : Fd} (hf : l[j]? = some f) (hl : l.length ≤ 1000) (hs : f.node.path.size ≤ 1000000) :
    ∃ W', (Instr.mapUpdate 58 (.map (some w.heap.size)) (.string f.node.path) (.agg f.cells)).run Tryz.prog W = .ok () W' ∧ BI w X E cE l (j + 1) W' := by
  obtain ⟨W', hrun, hm, hg⟩ := h.map.put Tryz.underlying58 f.node.path (by unfold maxLen; omega) (List.mem_map.2 ⟨f, List.mem_of_getElem? hf, rfl⟩) (by rw [List.length_map]; unfold maxLen; omega) (.agg f.cells)
  rw [held_put, ← mapF_snoc] at hm
  refine ⟨W', hrun, ⟨?_, ?_, ?_, ?_, h.base⟩⟩
  · exact h.below.grown hg h.below.size (fun k e => by cases e; exact Nat.le_refl _)
  · rw [List.take_add_one, hf]; exact hm
  · exact (hg.block _ (Array.getElem?_eq_some_iff.1 h.row).1 (by simp)).trans h.row
  · refine h.own.kept hg ?_
    rcases h.own.2 with ⟨hv, _⟩ | ⟨g, cap, cur, hv, hb, _⟩
    · left; rw [hv]; rfl
    · right
      rw [hv]
      intro e
      have : g = w.heap.size := by simpa [Value.ownBlock] using e
      have := h.base
      omega

set_option maxHeartbeats 16000000 in
theorem blocked_any {LL : Bd} {V : Ns → Pl} (A : Option Addr) (S : List Nd) (c : Nat) (B : Option Addr) (D : List Nd) (d : Nat) (C : Option Addr) (R : List (Bool × ByteArray)) (f : Nat) (del : Bool) (n : Nd) (w : World)
    (hA : RdN w w.heap.size A S) (hS : FewN S) (hSl : (S.length : Int) ≤ 1000) (hB : RdN w w.heap.size B D) (hD : FewN D) (hDl : (D.length : Int) ≤ 1000) (hR : RdR w w.heap.size C R) (hf : Few R) (hl : (R.length : Int) ≤ 1000000)
    (hL : LL.names.length < maxLen) (h0 : [] ∈ LL.paths) (hok : ∀ n, n ∈ S ∨ n ∈ D → NdOk LL n) (hV : V = layV (sentL (rulesL R) S) (shownL D) (guardL (rulesL R) D) del)
    (hfew : LL.paths.length ≤ 1000) (hdeep : ∀ P ∈ LL.paths, P.length ≤ 16) (hsz : FewV LL V) (hone : sentL (rulesL R) S = [n]) (hn : n.path.size ≤ 1000000) :
    Calls Tryz.prog 20 #[.slice A S.length c, .slice B D.length d, .slice C R.length f, .bool del] w fun e w' => ∃ X k x l, e = .returned (.slice X k x) ∧ Told V l ∧ k = (if oursIn (mapF l) n.path = true then 0 else 1) ∧ Below w.heap.size w w' := by
  have hmm := @run_makeMap Tryz.prog
  have HLay := hide (fun W (hb : Below w.heap.size w W) => lay_any LL A S c B D d C R f del W (hA.step hb) hS hSl (hB.step hb) hD hDl (hR.step hb) hf hl hL h0 hok)
  rw [← hV] at HLay
  have HWalk := hide (fun (W : World) (n : Nat) (AA : Where) (hp : PT W n LL AA V) (q : Nat × Nat) (hq : AA [] = some q) => walk_any hp (Nat.le_trans hfew (by decide)) hdeep hsz q hq)
  have HSent := hide (fun W (hb : Below w.heap.size w W) => sent_any A S c C R f W (hA.step hb) hS hSl (hR.step hb) hf hl)
  rw [hone] at HSent
  have HM0 := hide (fun (l : List ByteArray) => MapIs.made w l)
  have hr1 := World.alloc_heap_new (w.alloc (.map #[] 0)) (Obj.cells #[.map (some w.heap.size)] 58)
  have hbb := ((Below.refl w.heap.size w).alloc (Nat.le_refl _) (.map #[] 0)).alloc (by simp) (.cells #[.map (some w.heap.size)] 58)
  have hb01 := (Below.refl _ (w.alloc (.map #[] 0))).alloc (Nat.le_refl _) (.cells #[.map (some w.heap.size)] 58)
  rw [show (w.alloc (.map #[] 0)).heap.size = w.heap.size + 1 from by simp] at hr1
  obtain ⟨W1, hW1⟩ : ∃ W1, W1 = (w.alloc (.map #[] 0)).alloc (.cells #[.map (some w.heap.size)] 58) := ⟨_, rfl⟩
  have hs1 : W1.heap.size = w.heap.size + 2 := by rw [hW1]; simp
  rw [← hW1] at hr1 hbb hb01
  have HM1 := hide (fun (l : List ByteArray) => (HM0.out l).kept (grownBy_below hb01) (by intro e; cases e))
  have HR1 := hide hr1
  have HBB := hide hbb
  have HS1 := hide hs1
  clear hA hS hB hD hR hf hL h0 hok hV hdeep hsz hone HM0 hr1 hbb hb01 hs1
  go_enter Tryz.func20, Tryz.ntmps20
  go_wp2_with fail
  rw [← hW1]
  clear hW1
  refine (HLay.out W1 HBB.out).mono ?_
  rintro e w1 ⟨AA, q, rfl, hq, hp, hb1⟩
  have HW1 := hide (HWalk.out w1 _ AA hp q hq)
  have HB1 := hide hb1
  clear HLay HWalk hp hq hb1
  go_wp2_with fail
  refine HW1.out.mono ?_
  rintro e w2 ⟨v, l, rfl, hT, hll, hb2, hown⟩
  obtain ⟨E, cE, rfl⟩ := ownsRow_slice hown
  have HT := hide hT
  have hb12 := HB1.out.trans (hb2.mono HB1.out.size)
  have hX : w.heap.size + 2 ≤ w1.heap.size := by have := HB1.out.size; have := HS1.out; omega
  have HI := hide (show BI w w1.heap.size E cE l 0 w2 from ⟨HBB.out.trans (hb12.mono HBB.out.size), (HM1.out _).kept (grownBy_below hb12) (by intro e; cases e), (hb12.block _ (Array.getElem?_eq_some_iff.1 HR1.out).1).trans HR1.out, hown, hX⟩)
  have hlk : l.length ≤ 1000 := Nat.le_trans hll hfew
  have hnf : ∀ f ∈ l, f.node.path.size ≤ 1000000 := fun f hf => (hT.few f hf).1
  have HNF := hide hnf
  clear HW1 hT hb2 hown hb12 HM1 HR1 HBB HS1 HB1 hll hnf
  obtain ⟨X0, hX0⟩ : ∃ X0, X0 = w1.heap.size := ⟨_, rfl⟩
  rw [← hX0] at HI hX
  clear hX0
  go_wp2_with fail
  go_loopg [20] l.length (fun gk iv wr => ∃ j : Nat, iv = .int .i64 j ∧ j + gk = l.length ∧ Hid (BI w X0 E cE l j wr))
  case atStart => exact ⟨0, rfl, by omega, HI⟩
  case round =>
    obtain ⟨j, rfl, hjg, HJ⟩ := hrel
    clear HI
    cases gk with
    | zero =>
      obtain rfl : j = l.length := by omega
      have hJ := HJ.out
      have HS := hide (HSent.out wr hJ.below)
      clear HSent HNF
      go_wp2_with fail
      refine HS.out.mono ?_
      rintro e w3 ⟨v, rfl, hN⟩
      have hJ3 := hJ.step hN.below
      have hOn := hN.own
      rcases hOn.2 with ⟨_, h0⟩ | ⟨g, cap, cur, rfl, hbase, hgb, h1, h2, h3, h4⟩
      · cases h0
      have hc : 1 ≤ cap := h1
      have hlen : 5 ≤ cur.size := by omega
      have hRd := RdN.own hOn
      have HC := hide (fun (W : World) (h : Below w3.heap.size w3 W) => (show Calls Tryz.prog 33 #[.agg n.cells, .pointer (some ⟨w.heap.size + 1, 0, none⟩)] W fun e w' => e = .returned (.bool (oursIn (mapF l) n.path)) ∧ Below W.heap.size W w' from by
        have h9 := hJ3.step h
        have hm := h9.map
        rw [List.take_length] at hm
        exact blk1_any _ _ _ _ n W h9.row hm hn))
      have HBl := hide hJ3.below
      have hge : w.heap.size ≤ g := by have := hJ.below.size; omega
      have D0 := fun h => del0_any (w.heap.size + 1) (some ⟨g, 0, none⟩) cap n w3 hRd h
      have D1 := fun h => del1_any (w.heap.size + 1) g cap hc n w3 cur hgb hlen hRd h
      have HD0 := hide D0
      have HD1 := hide D1
      clear hJ hJ3 hN hOn hgb h1 h2 h3 h4 hRd HJ HS D0 D1 hbase hlen hc
      cases hx : oursIn (mapF l) n.path with
      | true =>
        rw [hx] at HC
        have HD := hide (HD1.out HC.out)
        clear HC HD0 HD1
        go_wp2_with fail
        refine HD.out.mono ?_
        rintro e w4 ⟨rfl, hg4⟩
        have HF := hide (HBl.out.grown hg4 HBl.out.size (fun k e => by cases e; exact hge))
        clear HD hg4
        go_wp2_with fail
        exact bodyPost_ret (results_tmp rfl _ _ _) rfl ⟨_, _, _, l, rfl, HT.out, by rw [hx]; rfl, HF.out⟩
      | false =>
        rw [hx] at HC
        have HD := hide (HD0.out HC.out)
        clear HC HD0 HD1
        go_wp2_with fail
        refine HD.out.mono ?_
        rintro e w4 ⟨rfl, hb4⟩
        have HF := hide (HBl.out.trans (hb4.mono HBl.out.size))
        clear HD hb4
        go_wp2_with fail
        exact bodyPost_ret (results_tmp rfl _ _ _) rfl ⟨_, _, _, l, rfl, HT.out, by rw [hx]; rfl, HF.out⟩
    | succ g1 =>
      have hji : (j : Int) < l.length := by omega
      obtain ⟨fd, hfd⟩ : ∃ n, l[j]? = some n := ⟨_, List.getElem?_eq_getElem (by omega)⟩
      obtain ⟨ad, rfl, hlt, hnd⟩ := (RdFd.own HJ.out.own) j fd hfd
      have hjw : IntKind.i64.wrap ((j : Int) + 1) = ((j + 1 : Nat) : Int) := by rw [IntWalk.i64_in _ (by omega)]; rfl
      have HPut := hide (fun (W : World) (h : BI w X0 (some ad) cE l j W) => h.put hfd hlk (HNF.out fd (List.mem_of_getElem? hfd)))
      obtain ⟨⟨c0, c1, c2, c3, c4⟩, c5⟩ := hnd
      clear hfd hlt
      obtain ⟨⟨path, kind, mode, time, data⟩, ours⟩ := fd
      simp only [Fd.cells] at HPut c0 c1 c2 c3 c4 c5
      have hb3 := (Below.refl wr.heap.size wr).alloc (Nat.le_refl _) (.cells #[.string path, .int .i64 kind, .int .i64 mode, .int .i64 time, .string data, .bool ours] 53)
      have HJ3 := hide (HJ.out.step hb3)
      have y0 := cell_of_row _ _ 0 _ _ _ HJ3.out.row
      obtain ⟨w6, hrun, h6⟩ := HPut.out _ HJ3.out
      have HJ6 := hide h6
      clear HPut h6 hb3
      go_wp2_with fail
      go_roundg g1
      case rel => exact ⟨j + 1, rfl, by omega, HJ6⟩
      case measure => omega
end Go.Proofs.YteoafohebgfjdaaGreatDoor
/-
  Are two nodes the same, are two lists: plain.
-/
namespace Go.Proofs.YteoafohebgfjdaaGreatDoor
open Go.RowKit
set_option maxRecDepth 100000

/-- Are two nodes the same? -/
def ndB (x y : Nd) : Bool := (x.path.toList == y.path.toList) && ((x.kind == y.kind) && ((x.mode == y.mode) && ((x.time == y.time) && (x.data.toList == y.data.toList))))
def listB : List Nd → List Nd → Bool
  | [], [] => true
  | x :: a, y :: b => ndB x y && listB a b
  | _, _ => false
theorem ndB_iff (x y : Nd) : ndB x y = true ↔ x = y := by
  obtain ⟨a, b, c, d, e⟩ := x
  obtain ⟨a', b', c', d', e'⟩ := y
  simp only [ndB, Bool.and_eq_true, beq_iff_eq, Nd.mk.injEq]
  have h : ∀ p q : ByteArray, p.toList = q.toList ↔ p = q := fun p q => ⟨fun h => toL_inj (by rw [← toL_list, ← toL_list, h]), fun h => by rw [h]⟩
  rw [h, h]
theorem listB_iff : ∀ a b : List Nd, listB a b = true ↔ a = b
  | [], [] => by simp [listB]
  | x :: a, [] => by simp [listB]
  | [], y :: b => by simp [listB]
  | x :: a, y :: b => by
    simp only [listB, Bool.and_eq_true, ndB_iff, listB_iff a b, List.cons.injEq]
theorem listB_drop (a b : List Nd) (i : Nat) (x y : Nd) (hx : a[i]? = some x) (hy : b[i]? = some y) : listB (a.drop i) (b.drop i) = (ndB x y && listB (a.drop (i + 1)) (b.drop (i + 1))) := by
  obtain ⟨h1, e1⟩ := List.getElem?_eq_some_iff.1 hx
  obtain ⟨h2, e2⟩ := List.getElem?_eq_some_iff.1 hy
  rw [List.drop_eq_getElem_cons h1, List.drop_eq_getElem_cons h2, e1, e2]; rfl
theorem listB_len {a b : List Nd} (h : a.length ≠ b.length) : listB a b = false := by
  cases e : listB a b with
  | false => rfl
  | true => exact absurd (by rw [(listB_iff a b).1 e]) h
/-- Where two nodes differ first. -/
theorem ndB_first {x y : Nd} (h : ndB x y = false) :
    (x.path.toList == y.path.toList) = false ∨ ((x.path.toList == y.path.toList) = true ∧ (x.kind == y.kind) = false) ∨ ((x.path.toList == y.path.toList) = true ∧ (x.kind == y.kind) = true ∧ (x.mode == y.mode) = false) ∨
    ((x.path.toList == y.path.toList) = true ∧ (x.kind == y.kind) = true ∧ (x.mode == y.mode) = true ∧ (x.time == y.time) = false) ∨ ((x.path.toList == y.path.toList) = true ∧ (x.kind == y.kind) = true ∧ (x.mode == y.mode) = true ∧ (x.time == y.time) = true ∧ (x.data.toList == y.data.toList) = false) := by
  unfold ndB at h
  cases h1 : (x.path.toList == y.path.toList) <;> cases h2 : (x.kind == y.kind) <;> cases h3 : (x.mode == y.mode) <;> cases h4 : (x.time == y.time) <;> cases h5 : (x.data.toList == y.data.toList) <;> simp_all
end Go.Proofs.YteoafohebgfjdaaGreatDoor
/-
  The reference's Same.
-/
namespace Go.Proofs.YteoafohebgfjdaaGreatDoor
open Go.RowKit
set_option maxRecDepth 100000

set_option maxHeartbeats 16000000 in
theorem refSame_any (A D : Option Addr) (a b : List Nd) (c d : Nat) (w : World) (hA : RdN w w.heap.size A a) (hD : RdN w w.heap.size D b) (ha : (a.length : Int) ≤ 1000000) :
    Calls Tryz.prog 10 #[.slice A a.length c, .slice D b.length d] w fun e w' => e = .returned (.bool (listB a b)) ∧ Below w.heap.size w w' := by
  obtain ⟨V, hV⟩ : ∃ V, V = listB a b := ⟨_, rfl⟩
  rw [← hV]
  by_cases hl : a.length = b.length
  · have HV := hide (show listB (a.drop 0) (b.drop 0) = V by rw [hV]; rfl)
    have hle : (a.length : Int) = b.length := by omega
    have HAA := hide hA
    have HDD := hide hD
    clear hV hA hD
    go_enter Tryz.func10, Tryz.ntmps10
    go_wp2_with fail
    go_loopg [5] a.length (fun gk iv wr => ∃ i : Nat, iv = .int .i64 i ∧ i + gk = a.length ∧ Hid (listB (a.drop i) (b.drop i) = V) ∧ Hid (Below w.heap.size w wr))
    case atStart => exact ⟨0, rfl, by omega, HV, hide (Below.refl _ _)⟩
    case round =>
      obtain ⟨i, rfl, hig, HB, HW⟩ := hrel
      clear HV
      cases gk with
      | zero =>
        obtain rfl : i = a.length := by omega
        have HE := hide (show V = true by rw [← HB.out, List.drop_length, hl, List.drop_length]; rfl)
        clear HB
        go_wp2_with fail
        exact bodyPost_ret (results_tmp rfl _ _ _) rfl ⟨by rw [HE.out]; rfl, HW.out⟩
      | succ g0 =>
        have hii : (i : Int) < a.length := by omega
        have hib : (i : Int) < b.length := by omega
        have hi0 : (0 : Int) ≤ (i : Int) := by omega
        obtain ⟨x, hx⟩ : ∃ x, a[i]? = some x := ⟨_, List.getElem?_eq_getElem (by omega)⟩
        obtain ⟨y, hy⟩ : ∃ y, b[i]? = some y := ⟨_, List.getElem?_eq_getElem (by omega)⟩
        have hd := HB.out
        rw [listB_drop a b i x y hx hy] at hd
        obtain ⟨ad, rfl, hlt1, h1⟩ := (HAA.out.below HW.out (Nat.le_refl _)) i x hx
        obtain ⟨ae, rfl, hlt2, h2⟩ := (HDD.out.below HW.out (Nat.le_refl _)) i y hy
        have hiw : IntKind.i64.wrap ((i : Int) + 1) = ((i + 1 : Nat) : Int) := by rw [IntWalk.i64_in _ (by omega)]; rfl
        obtain ⟨c0, c1, c2, c3, c4⟩ := h1
        obtain ⟨e0, e1, e2, e3, e4⟩ := h2
        cases hq : ndB x y with
        | true =>
          rw [hq, Bool.true_and] at hd
          obtain rfl := (ndB_iff x y).1 hq
          have HD := hide hd
          clear hd HB hx hy hq hlt1 hlt2
          obtain ⟨path, kind, mode, time, data⟩ := x
          simp only at c0 c1 c2 c3 c4 e0 e1 e2 e3 e4
          go_wp2_with fail
          go_quiet (fail)
          go_wp2_with fail
          rename_i nq
          have HW2 := hide (below_drewN HW.out nq)
          go_roundg g0
          case rel => exact ⟨i + 1, rfl, by omega, HD, HW2⟩
          case measure => omega
        | false =>
          rw [hq, Bool.false_and] at hd
          have HD := hide hd
          have hfirst := ndB_first hq
          clear hd HB hx hy hq hlt1 hlt2
          obtain ⟨path, kind, mode, time, data⟩ := x
          obtain ⟨path', kind', mode', time', data'⟩ := y
          simp only at c0 c1 c2 c3 c4 e0 e1 e2 e3 e4 hfirst
          rcases hfirst with g1 | ⟨g1, g2⟩ | ⟨g1, g2, g3⟩ | ⟨g1, g2, g3, g4⟩ | ⟨g1, g2, g3, g4, g5⟩
          all_goals
            go_wp2_with fail
            go_quiet (fail)
            go_wp2_with fail
            rename_i nq
            exact bodyPost_ret (results_tmp rfl _ _ _) rfl ⟨by rw [← HD.out]; rfl, below_drewN HW.out nq⟩
  · have hle : ¬ (a.length : Int) = b.length := by omega
    have HE := hide (show V = false by rw [hV]; exact listB_len hl)
    clear hV
    go_enter Tryz.func10, Tryz.ntmps10
    go_wp2_with fail
    exact bodyPost_ret (results_tmp rfl _ _ _) rfl ⟨by rw [HE.out]; rfl, Below.refl _ _⟩
end Go.Proofs.YteoafohebgfjdaaGreatDoor
