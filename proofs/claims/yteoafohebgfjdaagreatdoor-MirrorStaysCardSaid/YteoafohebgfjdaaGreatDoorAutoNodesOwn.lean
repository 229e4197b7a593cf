/-
  Texts that belong together: PathLib, Nodes, NodesOwn.
-/
import Derived.Test.YteoafohebgfjdaaGreatDoorProg
import Derived.Test.YteoafohebgfjdaaGreatDoorAutoBytes
import Derived.WalkKit
import Derived.WalkSpells
import Derived.Lib.IndexLaws
import Derived.Lib.Bytealg
import Derived.Lib.Strings
import Derived.Deep.DeepCutAuto
import Derived.Deep.LoopGhost
import Derived.Laws.AppendOwnNone
/-
  What package strings answers for a separator of one byte: where it first stands.
-/
namespace Go.Proofs.YteoafohebgfjdaaGreatDoor
open Go.RowKit
set_option maxRecDepth 100000

set_option maxHeartbeats 400000 in
theorem indexByte_any (s : ByteArray) (c : UInt8) (w : World) :
    Calls Tryz.prog 118 #[.string s, .int .u8 c.toNat] w fun e w' => e = .returned (.int .i64 (Lib.indexByte s.data.toList c)) ∧ w = w' := by
  go_enter Tryz.func118, Tryz.ntmps118
  go_wp2
  rw [run_callFunc_extern Tryz.func128 (by kernel_rfl) (by kernel_rfl) (by kernel_rfl) (e := Extern.BytealgIndexByte.indexByte) (by kernel_rfl), Lib.run_indexByteString]
  simp only [Result.andThen]
  rw [Oper.upon_value]
  go_wp2
  go_ret
  exact ⟨by simp, rfl⟩

set_option maxRecDepth 100000 in
set_option maxHeartbeats 1000000 in
theorem slIndex_any (s : ByteArray) (c : UInt8) (w : World) :
    Calls Tryz.prog 113 #[.string s, .string ⟨#[c]⟩] w fun e w' => e = .returned (.int .i64 (Lib.indexByte s.data.toList c)) ∧ w = w' := by
  cases hE : ([c] == s.toList) with
  | true =>
    have e : s.data.toList = [c] := by rw [← Lib.toList_data]; exact (beq_iff_eq.1 hE).symm
    have HR := hide (show Lib.indexByte s.data.toList c = 0 by rw [e]; simp [Lib.indexByte])
    clear e
    go_enter Tryz.func113, Tryz.ntmps113
    go_wp2
    go_ret
    exact ⟨by rw [HR.out]; rfl, rfl⟩
  | false =>
    go_enter Tryz.func113, Tryz.ntmps113
    go_wp2_with (go_at_call 118; refine (indexByte_any s c _).mono ?_; rintro e w' ⟨rfl, rfl⟩)
    go_ret
    exact ⟨rfl, rfl⟩

set_option maxHeartbeats 400000 in
theorem index_any (s : ByteArray) (c : UInt8) (w : World) :
    Calls Tryz.prog 108 #[.string s, .string ⟨#[c]⟩] w fun e w' => e = .returned (.int .i64 (Lib.indexByte s.data.toList c)) ∧ w = w' := by
  go_enter Tryz.func108, Tryz.ntmps108
  go_wp2_with fail
  refine (slIndex_any s c _).mono ?_
  rintro e w1 ⟨rfl, rfl⟩
  go_wp2
  go_ret
  exact ⟨rfl, rfl⟩

/-! ### paths.Name -/
def letter (n : Int) : Bool := (decide (97 ≤ n) && decide (n ≤ 122)) || (decide (65 ≤ n) && decide (n ≤ 90)) || (decide (48 ≤ n) && decide (n ≤ 57)) || n == 46 || n == 95 || n == 45

set_option maxHeartbeats 800000 in
theorem ofName_any (n : Int) (w : World) :
    Calls Tryz.prog 101 #[.int .u8 n] w fun e w' => e = .returned (.bool (letter n)) ∧ w = w' := by
  by_cases e46 : n = 46
  · subst e46
    go_enter Tryz.func101, Tryz.ntmps101
    go_wp2
    go_ret
    exact ⟨rfl, rfl⟩
  by_cases e95 : n = 95
  · subst e95
    go_enter Tryz.func101, Tryz.ntmps101
    go_wp2
    go_ret
    exact ⟨rfl, rfl⟩
  by_cases e45 : n = 45
  · subst e45
    go_enter Tryz.func101, Tryz.ntmps101
    go_wp2
    go_ret
    exact ⟨rfl, rfl⟩
  have d46 : (n == 46) = false := beq_eq_false_iff_ne.2 e46
  have d95 : (n == 95) = false := beq_eq_false_iff_ne.2 e95
  have d45 : (n == 45) = false := beq_eq_false_iff_ne.2 e45
  clear e46 e95 e45
  by_cases r0 : n < 48
  · have HL := hide (show letter n = false by unfold letter; rw [d46, d95, d45]; simp; omega)
    have f0 : ¬ 97 ≤ n := by omega
    have f1 : ¬ 65 ≤ n := by omega
    have f2 : ¬ 48 ≤ n := by omega
    clear r0
    go_enter Tryz.func101, Tryz.ntmps101
    go_wp2
    go_ret
    exact ⟨by rw [HL.out]; rfl, rfl⟩
  by_cases r1 : 48 ≤ n ∧ n ≤ 57
  · have HL := hide (show letter n = true by unfold letter; rw [d46, d95, d45]; simp; omega)
    have f0 : ¬ 97 ≤ n := by omega
    have f1 : ¬ 65 ≤ n := by omega
    have f2 : 48 ≤ n := by omega
    have f3 : n ≤ 57 := by omega
    clear r1
    go_enter Tryz.func101, Tryz.ntmps101
    go_wp2
    go_ret
    exact ⟨by rw [HL.out]; rfl, rfl⟩
  by_cases r2 : 57 < n ∧ n < 65
  · have HL := hide (show letter n = false by unfold letter; rw [d46, d95, d45]; simp; omega)
    have f0 : ¬ 97 ≤ n := by omega
    have f1 : ¬ 65 ≤ n := by omega
    have f2 : 48 ≤ n := by omega
    have f3 : ¬ n ≤ 57 := by omega
    clear r2
    go_enter Tryz.func101, Tryz.ntmps101
    go_wp2
    go_ret
    exact ⟨by rw [HL.out]; rfl, rfl⟩
  by_cases r3 : 65 ≤ n ∧ n ≤ 90
  · have HL := hide (show letter n = true by unfold letter; rw [d46, d95, d45]; simp; omega)
    have f0 : ¬ 97 ≤ n := by omega
    have f1 : 65 ≤ n := by omega
    have f2 : n ≤ 90 := by omega
    clear r3
    go_enter Tryz.func101, Tryz.ntmps101
    go_wp2
    go_ret
    exact ⟨by rw [HL.out]; rfl, rfl⟩
  by_cases r4 : 90 < n ∧ n < 97
  · have HL := hide (show letter n = false by unfold letter; rw [d46, d95, d45]; simp; omega)
    have f0 : ¬ 97 ≤ n := by omega
    have f1 : 65 ≤ n := by omega
    have f2 : ¬ n ≤ 90 := by omega
    have f3 : 48 ≤ n := by omega
    have f4 : ¬ n ≤ 57 := by omega
    clear r4
    go_enter Tryz.func101, Tryz.ntmps101
    go_wp2
    go_ret
    exact ⟨by rw [HL.out]; rfl, rfl⟩
  by_cases r5 : 97 ≤ n ∧ n ≤ 122
  · have HL := hide (show letter n = true by unfold letter; rw [d46, d95, d45]; simp; omega)
    have f0 : 97 ≤ n := by omega
    have f1 : n ≤ 122 := by omega
    clear r5
    go_enter Tryz.func101, Tryz.ntmps101
    go_wp2
    go_ret
    exact ⟨by rw [HL.out]; rfl, rfl⟩
  by_cases r6 : 122 < n
  · have HL := hide (show letter n = false by unfold letter; rw [d46, d95, d45]; simp; omega)
    have f0 : 97 ≤ n := by omega
    have f1 : ¬ n ≤ 122 := by omega
    have f2 : 65 ≤ n := by omega
    have f3 : ¬ n ≤ 90 := by omega
    have f4 : 48 ≤ n := by omega
    have f5 : ¬ n ≤ 57 := by omega
    clear r6
    go_enter Tryz.func101, Tryz.ntmps101
    go_wp2
    go_ret
    exact ⟨by rw [HL.out]; rfl, rfl⟩
  omega
end Go.Proofs.YteoafohebgfjdaaGreatDoor
/-
  Nodes that lie at an address, one behind the other; where the first one with a path is: the reference's At.
-/
namespace Go.Proofs.YteoafohebgfjdaaGreatDoor
open Go.RowKit
set_option maxRecDepth 100000

/-- A node. -/
structure Nd where
  path : ByteArray
  kind : Int
  mode : Int
  time : Int
  data : ByteArray
/-- No node. -/
def zeroNd : Nd := ⟨⟨#[]⟩, 0, 0, 0, ⟨#[]⟩⟩
/-- A node's cells. -/
def Nd.cells (n : Nd) : Array Value := #[.string n.path, .int .i64 n.kind, .int .i64 n.mode, .int .i64 n.time, .string n.data]
/-- A node's five cells, at an address. -/
structure NdAt (w : World) (ad : Addr) (n : Nd) : Prop where
  path : w.cell? ad = some (.string n.path)
  kind : w.cell? ⟨ad.block, ad.off + 1, none⟩ = some (.int .i64 n.kind)
  mode : w.cell? ⟨ad.block, ad.off + 2, none⟩ = some (.int .i64 n.mode)
  time : w.cell? ⟨ad.block, ad.off + 3, none⟩ = some (.int .i64 n.time)
  data : w.cell? ⟨ad.block, ad.off + 4, none⟩ = some (.string n.data)
theorem NdAt.below {w w' : World} {B : Nat} {ad : Addr} {n : Nd} (h : NdAt w ad n) (hb : Below B w w') (hB : ad.block < B) : NdAt w' ad n :=
  ⟨(hb.cell hB).trans h.path, (hb.cell (p := ⟨ad.block, _, none⟩) hB).trans h.kind, (hb.cell (p := ⟨ad.block, _, none⟩) hB).trans h.mode, (hb.cell (p := ⟨ad.block, _, none⟩) hB).trans h.time, (hb.cell (p := ⟨ad.block, _, none⟩) hB).trans h.data⟩
/-- Nodes that lie at an address, one behind the other, below block B. -/
def RdN (w : World) (B : Nat) (A : Option Addr) (l : List Nd) : Prop :=
  ∀ k n, l[k]? = some n → ∃ ad : Addr, A = some ad ∧ ad.block < B ∧ NdAt w (ad.add (k * 5)) n
theorem RdN.below {w w' : World} {B B' : Nat} {A : Option Addr} {l : List Nd} (h : RdN w B A l) (hb : Below B' w w') (hB : B ≤ B') : RdN w' B A l := fun k x hx => by
  obtain ⟨ad, e, hlt, h0⟩ := h k x hx
  exact ⟨ad, e, hlt, h0.below hb (by rw [add_block]; omega)⟩
theorem RdN.mono {w : World} {B B' : Nat} {A : Option Addr} {l : List Nd} (h : RdN w B A l) (hB : B ≤ B') : RdN w B' A l := fun k x hx => by
  obtain ⟨ad, e, hlt, hc⟩ := h k x hx
  exact ⟨ad, e, by omega, hc⟩
theorem RdN.step {w w' : World} {A : Option Addr} {l : List Nd} (h : RdN w w.heap.size A l) (hb : Below w.heap.size w w') : RdN w' w'.heap.size A l := (h.below hb (Nat.le_refl _)).mono hb.size
theorem RdN.nil (w : World) (B : Nat) (A : Option Addr) : RdN w B A [] := fun k x hx => by simp at hx

/-- Has a node this path? -/
def hit (p : ByteArray) (n : Nd) : Bool := n.path.toList == p.toList
/-- Where the first node with a path is; -1: there is none. -/
def atFrom (p : ByteArray) : Nat → List Nd → Int
  | _, [] => -1
  | i, n :: t => if hit p n then i else atFrom p (i + 1) t
def atL (p : ByteArray) (l : List Nd) : Int := atFrom p 0 l
theorem at_drop (p : ByteArray) (l : List Nd) (i : Nat) (n : Nd) (h : l[i]? = some n) : atFrom p i (l.drop i) = if hit p n then (i : Int) else atFrom p (i + 1) (l.drop (i + 1)) := by
  obtain ⟨hlt, e⟩ := List.getElem?_eq_some_iff.1 h
  rw [List.drop_eq_getElem_cons hlt, e]; rfl

set_option maxHeartbeats 4000000 in
theorem refAt_any (A : Option Addr) (l : List Nd) (c : Nat) (p : ByteArray) (w : World) (hA : RdN w w.heap.size A l) (hl : (l.length : Int) ≤ 1000000) :
    Calls Tryz.prog 17 #[.slice A l.length c, .string p] w fun e w' => e = .returned (.int .i64 (atL p l)) ∧ Below w.heap.size w w' := by
  obtain ⟨V, hV⟩ : ∃ V, V = atL p l := ⟨_, rfl⟩
  rw [← hV]
  have HV := hide (show atFrom p 0 (l.drop 0) = V by rw [hV]; rfl)
  clear hV
  go_enter Tryz.func17, Tryz.ntmps17
  go_wp2_with fail
  go_loopg [5] l.length (fun gk iv wr => ∃ i : Nat, iv = .int .i64 i ∧ i + gk = l.length ∧ Hid (atFrom p i (l.drop i) = V) ∧ Below w.heap.size w wr ∧ RdN wr wr.heap.size A l)
  case atStart => exact ⟨0, rfl, by omega, HV, Below.refl _ _, hA⟩
  case round =>
    obtain ⟨i, rfl, hig, HB, hB, hR⟩ := hrel
    clear hA
    cases gk with
    | zero =>
      obtain rfl : i = l.length := by omega
      have HE := hide (show V = -1 by rw [← HB.out, List.drop_length]; rfl)
      clear HB
      go_wp2_with fail
      exact bodyPost_ret (results_tmp rfl _ _ _) rfl ⟨by rw [HE.out]; rfl, hB⟩
    | succ g0 =>
      have hii : (i : Int) < l.length := by omega
      obtain ⟨n, hn⟩ : ∃ n, l[i]? = some n := ⟨_, List.getElem?_eq_getElem (by omega)⟩
      obtain ⟨ad, rfl, hlt, hnd⟩ := hR i n hn
      have c0 := hnd.path
      have hd := HB.out
      rw [at_drop p l i n hn] at hd
      clear HB hn hnd
      cases hh : hit p n with
      | true =>
        rw [hh, if_pos rfl] at hd
        have HD := hide hd
        have hq : (n.path.toList == p.toList) = true := hh
        clear hd hh
        go_wp2_with fail
        exact bodyPost_ret (results_tmp rfl _ _ _) rfl ⟨by rw [← HD.out]; rfl, hB⟩
      | false =>
        rw [hh, if_neg (by decide)] at hd
        have HD := hide hd
        have hq : (n.path.toList == p.toList) = false := hh
        have hiw : IntKind.i64.wrap ((i : Int) + 1) = ((i + 1 : Nat) : Int) := by rw [IntWalk.i64_in _ (by omega)]; rfl
        clear hd hh
        go_wp2_with fail
        go_roundg g0
        case rel => exact ⟨i + 1, rfl, by omega, HD, hB, hR⟩
        case measure => omega
end Go.Proofs.YteoafohebgfjdaaGreatDoor
/-
  Rows of nodes of the call's own; append of nodes.
-/
namespace Go.Proofs.YteoafohebgfjdaaGreatDoor
open Go.RowKit
set_option maxRecDepth 100000

/-- Nodes' cells. -/
def cellsN (l : List Nd) : List Value := l.flatMap fun n => n.cells.toList
theorem cellsN_app (l m : List Nd) : cellsN (l ++ m) = cellsN l ++ cellsN m := by simp [cellsN]
theorem cellsN_snoc (l : List Nd) (n : Nd) : cellsN (l ++ [n]) = cellsN l ++ [.string n.path, .int .i64 n.kind, .int .i64 n.mode, .int .i64 n.time, .string n.data] := by simp [cellsN, Nd.cells]
theorem cellsN_len : ∀ l : List Nd, (cellsN l).length = l.length * 5
  | [] => rfl
  | n :: l => by
    show (n.cells.toList ++ cellsN l).length = _
    rw [List.length_append, cellsN_len l, List.length_cons]
    show 5 + _ = _
    omega
theorem cellsN_get : ∀ (l : List Nd) (k : Nat) (n : Nd), l[k]? = some n → (cellsN l)[k * 5]? = some (.string n.path) ∧ (cellsN l)[k * 5 + 1]? = some (.int .i64 n.kind) ∧ (cellsN l)[k * 5 + 2]? = some (.int .i64 n.mode) ∧ (cellsN l)[k * 5 + 3]? = some (.int .i64 n.time) ∧ (cellsN l)[k * 5 + 4]? = some (.string n.data)
  | [], k, n, h => by simp at h
  | u :: l, 0, n, h => by
    simp at h
    subst h
    exact ⟨rfl, rfl, rfl, rfl, rfl⟩
  | u :: l, k + 1, n, h => by
    have e : ∀ j, (cellsN (u :: l))[5 + j]? = (cellsN l)[j]? := fun j => by
      show (u.cells.toList ++ cellsN l)[5 + j]? = _
      rw [List.getElem?_append_right (by show 5 ≤ _; omega)]
      congr 1
      show 5 + j - 5 = j
      omega
    obtain ⟨h1, h2, h3, h4, h5⟩ := cellsN_get l k n (by simpa using h)
    refine ⟨?_, ?_, ?_, ?_, ?_⟩
    · rw [show (k + 1) * 5 = 5 + k * 5 by omega, e]; exact h1
    · rw [show (k + 1) * 5 + 1 = 5 + (k * 5 + 1) by omega, e]; exact h2
    · rw [show (k + 1) * 5 + 2 = 5 + (k * 5 + 2) by omega, e]; exact h3
    · rw [show (k + 1) * 5 + 3 = 5 + (k * 5 + 3) by omega, e]; exact h4
    · rw [show (k + 1) * 5 + 4 = 5 + (k * 5 + 4) by omega, e]; exact h5
theorem addN_off (g k : Nat) : ((⟨g, 0, none⟩ : Addr).add k) = ⟨g, k, none⟩ := by unfold Addr.add; split <;> simp_all
theorem RdN.own {w : World} {B n c : Nat} {A : Option Addr} {l : List Nd} (h : w.ownsRow B 36 5 (.slice A n c) n (cellsN l)) : RdN w w.heap.size A l := by
  intro k r hk
  obtain ⟨q1, q2, q3, q4, q5⟩ := cellsN_get l k r hk
  rcases h.2 with ⟨hv, h0⟩ | ⟨g, cap, cur, hv, _, hg, _⟩
  · have h1 := h.1
    rw [h0] at h1
    have : cellsN l = [] := List.length_eq_zero_iff.1 (by omega)
    rw [this] at q1; simp at q1
  · injection hv with hA
    subst hA
    have hc := fun j u hj => h.cells (g := g) rfl j u hj
    refine ⟨_, rfl, (Array.getElem?_eq_some_iff.1 hg).1, ?_⟩
    have h1 := hc _ _ q1
    have h2 := hc _ _ q2
    have h3 := hc _ _ q3
    have h4 := hc _ _ q4
    have h5 := hc _ _ q5
    rw [addN_off] at h1 h2 h3 h4 h5 ⊢
    exact ⟨h1, h2, h3, h4, h5⟩
theorem RdN.spot {w : World} {B : Nat} {ad : Addr} {n : Nd} {l : List Nd} (h : RdN w B (some ad) l) (h0 : l[0]? = some n) : ad.spot = none := by
  obtain ⟨ad', e, _, hn⟩ := h 0 n h0
  cases e
  have hp := hn.path
  rw [show ad.add (0 * 5) = ad from rfl] at hp
  unfold World.cell? at hp
  split at hp
  · split at hp
    · cases hp
    · rename_i h; simpa using h
  · cases hp
/-- Each cell of nodes that lie at an address. -/
theorem RdN.cell {w : World} {B : Nat} {ad : Addr} {l : List Nd} (h : RdN w B (some ad) l) : ∀ j u, (cellsN l)[j]? = some u → w.cell? (ad.add j) = some u := by
  intro j u hu
  have hj := (List.getElem?_eq_some_iff.1 hu).1
  rw [cellsN_len] at hj
  obtain ⟨k, r, hr, rfl⟩ : ∃ k r, r < 5 ∧ j = k * 5 + r := ⟨j / 5, j % 5, by omega, by omega⟩
  have hk : k < l.length := by omega
  have hs := h.spot (List.getElem?_eq_getElem (show 0 < l.length by omega))
  obtain ⟨q1, q2, q3, q4, q5⟩ := cellsN_get l k l[k] (List.getElem?_eq_getElem hk)
  obtain ⟨ad', e', _, hn⟩ := h k l[k] (List.getElem?_eq_getElem hk)
  cases e'
  have hb : ∀ i, ad.add i = ⟨ad.block, ad.off + i, none⟩ := fun i => by
    obtain ⟨b, o, s⟩ := ad
    simp only at hs
    subst hs
    unfold Addr.add; split <;> simp_all
  rw [hb] at hn ⊢
  obtain ⟨h1, h2, h3, h4, h5⟩ := hn
  simp only at h1 h2 h3 h4 h5
  rw [← Nat.add_assoc]
  rcases r with _ | _ | _ | _ | _ | r
  · rw [Nat.add_zero] at hu ⊢; rw [q1] at hu; rw [← hu]; exact h1
  · rw [q2] at hu; rw [← hu]; exact h2
  · rw [q3] at hu; rw [← hu]; exact h3
  · rw [q4] at hu; rw [← hu]; exact h4
  · rw [q5] at hu; rw [← hu]; exact h5
  · omega
theorem cellsN_one (l : List Nd) : ∀ u ∈ cellsN l, u.oneCell' = true := by
  intro u hu
  obtain ⟨n, _, hn⟩ := List.mem_flatMap.1 hu
  simp [Nd.cells] at hn
  rcases hn with rfl | rfl | rfl | rfl | rfl <;> rfl
theorem info_node : (Tryz.prog.info? 36).map (fun i => (i.zero, i.size, i.bytes)) = some (some (.agg #[.string ⟨#[]⟩, .int .i64 0, .int .i64 0, .int .i64 0, .string ⟨#[]⟩]), 5, 56) := by kernel_rfl
theorem RdN.drew {w : World} {A : Option Addr} {l : List Nd} (h : RdN w w.heap.size A l) : RdN w.drew w.drew.heap.size A l := h.step (Below.refl _ w).drew
theorem RdN.take {w : World} {B : Nat} {A : Option Addr} {l : List Nd} (h : RdN w B A l) (k : Nat) : RdN w B A (l.take k) := fun j x hx => by
  rw [List.getElem?_take] at hx
  split at hx
  · exact h j x hx
  · cases hx
/-- What is left of nodes behind the first k. -/
theorem RdN.drop {w : World} {B c k : Nat} {A : Option Addr} {l : List Nd} (h : RdN w B A l) (hc : l.length ≤ c) : RdN w B (if c = k then A else A.map (·.add (k * 5))) (l.drop k) := fun j x hx => by
  rw [List.getElem?_drop] at hx
  have hlt := (List.getElem?_eq_some_iff.1 hx).1
  obtain ⟨ad, rfl, hb, hn⟩ := h (k + j) x hx
  rw [if_neg (by omega)]
  refine ⟨ad.add (k * 5), rfl, by rw [add_block]; exact hb, ?_⟩
  have e : (ad.add (k * 5)).add (j * 5) = ad.add ((k + j) * 5) := by
    rw [Nat.add_mul]
    generalize k * 5 = a
    generalize j * 5 = b
    unfold Addr.add
    by_cases hi : a = 0 <;> by_cases hj : b = 0 <;> simp [hi, hj, Nat.add_assoc]
  rw [e]; exact hn
/-- A node that has just been laid. -/
theorem RdN.one (W : World) (n : Nd) (t : TypeId) : RdN (W.alloc (.cells n.cells t)) (W.alloc (.cells n.cells t)).heap.size (some ⟨W.heap.size, 0, none⟩) [n] := fun k x hx => by
  rcases k with _ | k
  · simp at hx
    subst hx
    have hrow := World.alloc_heap_new W (Obj.cells n.cells t)
    refine ⟨_, rfl, by simp, ?_⟩
    rw [addN_off]
    exact ⟨cell_of_row _ _ _ _ _ _ hrow, cell_of_row _ _ _ _ _ _ hrow, cell_of_row _ _ _ _ _ _ hrow, cell_of_row _ _ _ _ _ _ hrow, cell_of_row _ _ _ _ _ _ hrow⟩
  · simp at hx
theorem ownsRow_lowerN {w : World} {base base' n size : Nat} {e : TypeId} {v : Value} {xs : List Value} (h : w.ownsRow base e size v n xs) (hb : base' ≤ base) : w.ownsRow base' e size v n xs :=
  ⟨h.1, h.2.imp id fun ⟨g, cap, cur, h1, h2, h3⟩ => ⟨g, cap, cur, h1, Nat.le_trans hb h2, h3⟩⟩
/-- append onto a row of the call's own of a slice that reads as nodes, nil or not. -/
theorem wpList_append_nodes {P : Program} {w : World} {ops : Array Oper} {rest : List Oper} {o : Oper} {a : Act} {Q : Exit → Act → World → Prop} (hgd : o.guard = none) (s x : Operand) (t : TypeId)
    (ho : o.op = .call { callee := .builtin .append, args := #[s, x], argTypes := #[t, t] })
    (base : Nat) (e : TypeId) (i : TypeInfo) (ht : P.underlying t = some (.slice e)) (hi : P.info? e = some i) (hz : i.zero = some (.agg #[.string ⟨#[]⟩, .int .i64 0, .int .i64 0, .int .i64 0, .string ⟨#[]⟩])) (hsize : i.size = 5) (hby : i.bytes = 56)
    (v : Value) (n : Nat) (xs : List Value) (hs : a.eval s = v) (hown : w.ownsRow base e 5 v n xs)
    (A : Option Addr) (m c B : Nat) (cs : List Nd) (hx : a.eval x = .slice A m c) (hm : m = cs.length) (hr : RdN w B A cs)
    (h63 : n + m ≤ maxLen) (hbytes : (n + m) * 56 ≤ 140737488355328) (hbase : base ≤ w.heap.size)
    (h : ∀ v' w', w'.ownsRow base e 5 v' (n + m) (xs ++ cellsN cs) → w.grownBy w' v.ownBlock → wpList P ops Q rest (a.put o.dst v') w') : wpList P ops Q (o :: rest) a w := by
  rcases A with _ | ad
  · have h0 : cs = [] := by
      cases cs with
      | nil => rfl
      | cons y r => obtain ⟨ad, e', _⟩ := hr 0 y rfl; cases e'
    subst h0
    obtain rfl : m = 0 := hm
    refine wpList_plain hgd fun K hK => ?_
    have hrun := run_append_nil (P := P) (w := w) base t o.type e i 5 ht hi v n xs hown c
    unfold Oper.wp
    simp [execOp, ho, resolve, invoke, builtin, hs, hx, hrun, Result.andThen]
    exact hK _ _ (h v w (by simpa [cellsN] using hown) (World.grownBy.refl w _))
  · exact wpList_append_own w hgd s x t ho base e i _ 5 56 ht hi hz hsize hby rfl (by decide) v n xs hs hown ad m c (cellsN cs) hx (by rw [cellsN_len, hm]) hr.cell (cellsN_one cs) h63 hbytes hbase (fun v' w' h1 h2 _ => h v' w' h1 h2)
end Go.Proofs.YteoafohebgfjdaaGreatDoor
