/-
  Slices of bytes: what lies at an address, append, conversions, arguments.
-/
import Derived.Test.YtggdndmjfbiaiaaDoorProg
import Derived.Test.YtggdndmjfbiaiaaDoorBase
import Derived.WalkKit
import Derived.WalkSpells
import Derived.IntWalk
import Derived.OwnWalk
import Derived.RangeFuncBox
import Derived.Lib.AppendZerosOnto
import Derived.Deep.QuietTactic
import Derived.BigQuiet
import Derived.Lib.ConvBytes
import Derived.Laws.BytesArg
import Derived.ChangeSlices
import Derived.Carry
import Derived.ProofKit
namespace Go.Proofs.YtggdndmjfbiaiaaDoor
open Go.RowKit
set_option maxRecDepth 100000
def byteV (x : UInt8) : Value := .int .u8 x.toNat
/-- Bytes that lie at an address, below block B. -/
def RdB (w : World) (B : Nat) (A : Option Addr) (l : List UInt8) : Prop :=
  ∀ k x, l[k]? = some x → ∃ ad : Addr, A = some ad ∧ ad.block < B ∧ w.cell? (ad.add k) = some (byteV x)
theorem RdB.below {w w' : World} {B B' : Nat} {A : Option Addr} {l : List UInt8} (h : RdB w B A l) (hb : Below B' w w') (hB : B ≤ B') : RdB w' B A l := fun k x hx => by
  obtain ⟨ad, e, hlt, hc⟩ := h k x hx
  exact ⟨ad, e, hlt, (hb.cell (by rw [add_block]; omega)).trans hc⟩
theorem RdB.mono {w : World} {B B' : Nat} {A : Option Addr} {l : List UInt8} (h : RdB w B A l) (hB : B ≤ B') : RdB w B' A l := fun k x hx => by
  obtain ⟨ad, e, hlt, hc⟩ := h k x hx
  exact ⟨ad, e, by omega, hc⟩
theorem RdB.step {w w' : World} {A : Option Addr} {l : List UInt8} (h : RdB w w.heap.size A l) (hb : Below w.heap.size w w') : RdB w' w'.heap.size A l := (h.below hb (Nat.le_refl _)).mono hb.size
theorem RdB.nil (w : World) (B : Nat) (A : Option Addr) : RdB w B A [] := fun k x hx => by simp at hx
theorem RdB.own {w : World} {base n c : Nat} {e : TypeId} {A : Option Addr} {l : List UInt8} (h : w.ownsRow base e 1 (.slice A n c) n (l.map byteV)) : RdB w w.heap.size A l := fun k x hx => by
  rcases h.2 with ⟨hv, h0⟩ | ⟨g, cap, cur, hv, _, hg, _⟩
  · have := h.1
    rw [h0] at this
    simp at this
    subst this
    simp at hx
  · injection hv with hA
    subst hA
    refine ⟨_, rfl, (Array.getElem?_eq_some_iff.1 hg).1, h.cells (g := g) rfl k _ ?_⟩
    rw [List.getElem?_map, hx]; rfl
theorem ownsRow_slice {w : World} {base n size : Nat} {e : TypeId} {v : Value} {xs : List Value} (h : w.ownsRow base e size v n xs) : ∃ A c, v = .slice A n c := by
  rcases h.2 with ⟨rfl, rfl⟩ | ⟨g, cap, cur, rfl, _⟩
  · exact ⟨_, _, rfl⟩
  · exact ⟨_, _, rfl⟩
theorem own_below {w w' : World} {base n size : Nat} {e : TypeId} {v : Value} {xs : List Value} (h : w.ownsRow base e size v n xs) (hb : Below w.heap.size w w') : w'.ownsRow base e size v n xs := by
  refine h.kept (grownBy_below hb) ?_
  cases v.ownBlock with
  | none => exact .inl rfl
  | some g => exact .inr (by simp)
/-- A slice's capacity; nothing's is none. -/
def Caps (A : Option Addr) (n c : Nat) : Prop := n ≤ c ∧ (A = none → c = 0)
theorem ownsRow_caps {w : World} {base n c size : Nat} {e : TypeId} {A : Option Addr} {xs : List Value} (h : w.ownsRow base e size (.slice A n c) n xs) : Caps A n c := by
  refine ⟨ownsRow_cap h, ?_⟩
  rintro rfl
  rcases h.2 with ⟨hv, h0⟩ | ⟨g, cap, cur, hv, _⟩
  · injection hv
  · injection hv with h1; cases h1
/-- A call's answer: a slice of these bytes. -/
def Bytes (w0 : World) (l : List UInt8) (e : Ending) (w' : World) : Prop :=
  ∃ A c, e = .returned (.slice A l.length c) ∧ Caps A l.length c ∧ RdB w' w'.heap.size A l ∧ Below w0.heap.size w0 w'

theorem info_byte : (Tryd.prog.info? 5).map (fun i => (i.zero, i.size, i.bytes)) = some (some (.int .u8 0), 1, 1) := by kernel_rfl

theorem run_append_nil {P : Program} {w : World} (base : Nat) (t ty e : TypeId) (i : TypeInfo) (size : Nat) (ht : P.underlying t = some (.slice e)) (hi : P.info? e = some i)
    (v : Value) (n : Nat) (xs : List Value) (hown : w.ownsRow base e size v n xs) (c : Nat) : (Builtin.append_ #[t, t] ty #[v, .slice none 0 c]).run P w = .ok v w := by
  rcases hown.2 with ⟨rfl, rfl⟩ | ⟨g, cap, cur, rfl, _, _, hnc, _⟩
  · simp [Builtin.append_, run_underlying ht, sizeOf, typeInfo, hi, Builtin.lenOf, Builtin.firstCells]
  · simp [Builtin.append_, run_underlying ht, sizeOf, typeInfo, hi, Builtin.lenOf, Builtin.firstCells, hnc, storeCells]
/-- append onto a row of the call's own of a slice that reads as bytes, nil or not. -/
theorem wpList_append_bytes {P : Program} {w : World} {ops : Array Oper} {rest : List Oper} {o : Oper} {a : Act} {Q : Exit → Act → World → Prop} (hgd : o.guard = none) (s x : Operand) (t : TypeId)
    (ho : o.op = .call { callee := .builtin .append, args := #[s, x], argTypes := #[t, t] })
    (base : Nat) (e : TypeId) (i : TypeInfo) (ht : P.underlying t = some (.slice e)) (hi : P.info? e = some i) (hz : i.zero = some (.int .u8 0)) (hsize : i.size = 1) (hby : i.bytes = 1)
    (v : Value) (n : Nat) (xs : List Value) (hs : a.eval s = v) (hown : w.ownsRow base e 1 v n xs)
    (A : Option Addr) (m c B : Nat) (cs : List UInt8) (hx : a.eval x = .slice A m c) (hm : m = cs.length) (hr : RdB w B A cs)
    (h63 : n + m ≤ maxLen) (hbytes : (n + m) * 1 ≤ 140737488355328) (hbase : base ≤ w.heap.size)
    (h : ∀ v' w', w'.ownsRow base e 1 v' (n + m) (xs ++ cs.map byteV) → w.grownBy w' v.ownBlock → wpList P ops Q rest (a.put o.dst v') w') : wpList P ops Q (o :: rest) a w := by
  rcases A with _ | ad
  · have h0 : cs = [] := by
      cases cs with
      | nil => rfl
      | cons y r => obtain ⟨ad, e', _⟩ := hr 0 y rfl; cases e'
    subst h0
    obtain rfl : m = 0 := hm
    refine wpList_plain hgd fun K hK => ?_
    have hrun := run_append_nil (P := P) (w := w) base t o.type e i 1 ht hi v n xs hown c
    unfold Oper.wp
    simp [execOp, ho, resolve, invoke, builtin, hs, hx, hrun, Result.andThen]
    exact hK _ _ (h v w (by simpa using hown) (World.grownBy.refl w _))
  · refine wpList_append_own w hgd s x t ho base e i (.int .u8 0) 1 1 ht hi hz hsize hby rfl (by decide) v n xs hs hown ad m c (cs.map byteV) hx (by simp [hm]) ?_ ?_ h63 hbytes hbase (fun v' w' h1 h2 _ => h v' w' h1 h2)
    · intro j u hu
      rw [List.getElem?_map, Option.map_eq_some_iff] at hu
      obtain ⟨y, hy, rfl⟩ := hu
      obtain ⟨ad', e', _, hc⟩ := hr j y hy
      cases e'
      exact hc
    · intro u hu
      obtain ⟨y, _, rfl⟩ := List.mem_map.1 hu
      rfl

def ofL (l : List UInt8) : ByteArray := ⟨l.toArray⟩
theorem ofL_size (l : List UInt8) : (ofL l).size = l.length := by simp [ofL, ByteArray.size]
theorem toL_ofL (l : List UInt8) : toL (ofL l) = l := rfl
theorem toL_inj {x y : ByteArray} (h : toL x = toL y) : x = y := by
  obtain ⟨⟨x⟩⟩ := x
  obtain ⟨⟨y⟩⟩ := y
  simp only [toL] at h
  subst h
  rfl
/-- An address of bytes that are there is a block's. -/
theorem RdB.spot {w : World} {B : Nat} {ad : Addr} {x : UInt8} {l : List UInt8} (h : RdB w B (some ad) (x :: l)) : ad.spot = none ∧ ad.block < B := by
  obtain ⟨ad', e, hb, h0⟩ := h 0 x rfl
  cases e
  refine ⟨?_, hb⟩
  rw [show ad.add 0 = ad from rfl] at h0
  unfold World.cell? at h0
  split at h0
  · split at h0
    · cases h0
    · rename_i h; simpa using h
  · cases h0
theorem RdB.at_ {w : World} {B b o k : Nat} {x : UInt8} {l : List UInt8} (h : RdB w B (some ⟨b, o, none⟩) l) (hx : l[k]? = some x) : w.cell? ⟨b, o + k, none⟩ = some (byteV x) := by
  obtain ⟨ad, e, _, hc⟩ := h k x hx
  cases e
  by_cases hk : k = 0
  · subst hk; exact hc
  · unfold Addr.add at hc
    rw [if_neg hk] at hc
    exact hc

theorem push_all : ∀ (l : List UInt8) (r : ByteArray), toL ((l.map (fun x => ((x.toNat : Nat) : Int))).foldl (fun r n => r.push (UInt8.ofNat n.toNat)) r) = toL r ++ l
  | [], r => by simp [toL]
  | x :: l, r => by
    simp only [List.map_cons, List.foldl_cons]
    rw [push_all l]
    simp [toL, ByteArray.push]
/-- A slice of bytes as a text. -/
theorem conv_any {w : World} {B : Nat} {A : Option Addr} {l : List UInt8} (h : RdB w B A l) (c : Nat) :
    (convert 69 9 (.slice A l.length c)).run Tryd.prog w = .ok (.string (ofL l)) w := by
  cases A with
  | none =>
    have h0 : l = [] := by
      cases l with
      | nil => rfl
      | cons y r => obtain ⟨ad, e', _⟩ := h 0 y rfl; cases e'
    subst h0
    exact run_convert_bytes_nil w 69 5 Tryd.underlying69 Tryd.underlying5 0 c 9 Tryd.underlying9
  | some ad =>
    rw [run_convert_bytes_string w 69 9 5 (some ad) l.length c Tryd.underlying69 Tryd.underlying5 Tryd.underlying9]
    have hl : (loadCells ad l.length).run Tryd.prog w = .ok ((l.map (fun x => ((x.toNat : Nat) : Int))).map (Value.int .u8)).toArray w := by
      have := run_loadCells_list (P := Tryd.prog) w ad ((l.map (fun x => ((x.toNat : Nat) : Int))).map (Value.int .u8)) (fun j v hj => by
        rw [List.map_map, List.getElem?_map, Option.map_eq_some_iff] at hj
        obtain ⟨y, hy, rfl⟩ := hj
        obtain ⟨ad', e', _, hc⟩ := h j y hy
        cases e'
        exact hc)
      simpa using this
    rw [run_bytesToString w ad l.length c _ hl]
    congr 2
    apply toL_inj
    rw [push_all, toL_ofL]; rfl

theorem RdB.of_none {w : World} {B : Nat} {l : List UInt8} (h : RdB w B none l) : l = [] := by
  cases l with
  | nil => rfl
  | cons y r => obtain ⟨ad, e', _⟩ := h 0 y rfl; cases e'

theorem Bytes.back {w w1 w' : World} {l : List UInt8} {e : Ending} (h : Bytes w1 l e w') (hb : Below w.heap.size w w1) : Bytes w l e w' := by
  obtain ⟨A, c, h1, h2, h3, h4⟩ := h
  exact ⟨A, c, h1, h2, h3, hb.trans (h4.mono hb.size)⟩
/-- A text's bytes: they read so behind the conversion. -/
theorem made_bytes (w : World) (s : ByteArray) : RdB (Lib.bytesWorld w 5 s) (Lib.bytesWorld w 5 s).heap.size (some ⟨w.heap.size, 0, none⟩) (toL s) ∧ Below w.heap.size w (Lib.bytesWorld w 5 s) := by
  have hnew := Lib.bytesWorld_at_new w 5 s
  constructor
  · intro k x hx
    refine ⟨_, rfl, (Array.getElem?_eq_some_iff.1 hnew).1, ?_⟩
    have hk : k < s.size := by have := (List.getElem?_eq_some_iff.1 hx).1; simpa [toL] using this
    have hcell : (Lib.bytesCells w 5 s)[k]? = some (byteV x) := by
      unfold Lib.bytesCells
      rw [Array.getElem?_append_left (by simpa using hk)]
      have : s.data[k]? = some x := by rw [← hx]; simp [toL]
      simp [this, byteV]
    have e : ((⟨w.heap.size, 0, none⟩ : Addr).add k) = ⟨w.heap.size, k, none⟩ := by unfold Addr.add; split <;> simp_all
    rw [e]
    unfold World.cell?
    rw [hnew]
    simpa using hcell
  · exact ⟨rfl, rfl, rfl, by
      have := (Array.getElem?_eq_some_iff.1 hnew).1; omega, fun k hk => Lib.bytesWorld_at_old w 5 s k hk⟩

open Go.ChangeShapes Go.WideShapes
theorem laidOut : laidOutB Tryd.prog = true := by kernel_rfl
theorem cell_lt {w : World} {a : Addr} {v : Value} (h : w.cell? a = some v) : a.block < w.heap.size := by
  unfold World.cell? at h
  split at h
  · rename_i hg; exact (Array.getElem?_eq_some_iff.1 hg).1
  · cases h
set_option maxRecDepth 100000 in
theorem open_bytes {H : Type} {enc : TypeId × Value → H} {W : World} {v : Value} {d : DataW H} {ps : List MemPlace} {base : Nat} (hv : Value.okWide Tryd.prog W .any base 69 v) (h : DataW.Trod enc Tryd.prog W 0 (fun _ => true) true 69 v d ps) :
    ∃ (A : Option Addr) (l : List UInt8) (c : Nat), v = .slice A l.length c ∧ Caps A l.length c ∧ RdB W W.heap.size A l := by
  obtain ⟨a0, len0, cap0, rfl⟩ := okWide_slice Tryd.underlying69 hv
  obtain ⟨fuel, hf⟩ := h
  rcases open_ints Tryd.underlying69 Tryd.underlying5 (by kernel_rfl) hf with ⟨hcs, _⟩ | ⟨a, len, cap, zs, hcs, _, hl, _, hz, _, hcell, hwf⟩
  · have e : [Value.slice a0 len0 cap0] = [Value.slice none 0 0] := hcs
    cases e
    exact ⟨none, [], 0, rfl, ⟨Nat.le_refl _, fun _ => rfl⟩, RdB.nil _ _ _⟩
  · have e : [Value.slice a0 len0 cap0] = [Value.slice (some a) len cap] := hcs
    cases e
    have hlen : len0 ≤ zs.length := by rw [hz]; split <;> omega
    have hn : ((zs.take len0).map (fun z => UInt8.ofNat z.toNat)).length = len0 := by rw [List.length_map, List.length_take]; omega
    refine ⟨some a, (zs.take len0).map (fun z => UInt8.ofNat z.toNat), cap0, by rw [hn], ⟨by rw [hn]; exact hl, fun e => by cases e⟩, fun k x hx => ?_⟩
    rw [List.getElem?_map, Option.map_eq_some_iff] at hx
    obtain ⟨z, hz', rfl⟩ := hx
    rw [List.getElem?_take] at hz'
    split at hz'
    · have hk : k < zs.length := (List.getElem?_eq_some_iff.1 hz').1
      have hc := hcell k hk
      rw [show zs.getD k 0 = z by rw [List.getD_eq_getElem?_getD, hz']; rfl] at hc
      have hw : 0 ≤ z ∧ z ≤ 255 := by
        have := hwf z (List.mem_of_getElem? hz')
        simpa [Lit.wf, IntKind.min, IntKind.max, IntKind.signed, IntKind.bits] using this
      refine ⟨a, rfl, by have := cell_lt hc; rwa [add_block] at this, ?_⟩
      rw [hc]
      unfold byteV
      rw [UInt8.toNat_ofNat', Nat.mod_eq_of_lt (by omega)]
      congr 2
      omega
    · cases hz'
theorem u64_nat {z : Int} (h : (Lit.int .u64 z).wf = true) : ∃ n : Nat, z = n ∧ n < 18446744073709551616 := by
  have : 0 ≤ z ∧ z ≤ 18446744073709551615 := by simpa [Lit.wf, IntKind.min, IntKind.max, IntKind.signed, IntKind.bits] using h
  exact ⟨z.toNat, by omega, by omega⟩
theorem RdB.drop {w : World} {B c k : Nat} {A : Option Addr} {l : List UInt8} (h : RdB w B A l) (hc : l.length ≤ c) : RdB w B (if c = k then A else A.map (·.add k)) (l.drop k) := fun j x hx => by
  rw [List.getElem?_drop] at hx
  have hlt := (List.getElem?_eq_some_iff.1 hx).1
  obtain ⟨ad, rfl, hb, hcell⟩ := h (k + j) x hx
  rw [if_neg (by omega)]
  refine ⟨ad.add k, rfl, by rw [add_block]; exact hb, ?_⟩
  have e : (ad.add k).add j = ad.add (k + j) := by
    unfold Addr.add
    by_cases hi : k = 0 <;> by_cases hj : j = 0 <;> simp [hi, hj, Nat.add_assoc]
  rw [e]; exact hcell
end Go.Proofs.YtggdndmjfbiaiaaDoor
