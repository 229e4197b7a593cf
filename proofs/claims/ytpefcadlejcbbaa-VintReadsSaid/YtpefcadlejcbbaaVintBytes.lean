/-
  Slices of bytes; math/bits.Len64, slices.Grow of nothing, slices.Concat.
-/
import Derived.Test.YtpefcadlejcbbaaProg
import Derived.Test.YtpefcadlejcbbaaVintMath
import Derived.WalkKit
import Derived.WalkSpells
import Derived.IntWalk
import Derived.OwnWalk
import Derived.RangeFuncBox
import Derived.Lib.AppendZerosOnto
import Derived.Shelf.Strconv.Itoa0
import Derived.Deep.QuietTactic
import Derived.BigQuiet
namespace Go.Proofs.Ytpefcadlejcbbaa
open Go.RowKit
set_option maxRecDepth 100000

theorem hide {p : Prop} (h : p) : Hid p := h
theorem add_block (a : Addr) (n : Nat) : (a.add n).block = a.block := by unfold Addr.add; split <;> rfl
theorem grownBy_below {A B : World} (h : Below A.heap.size A B) : A.grownBy B none := ⟨h.os, h.tape, h.output, h.size, fun k hk _ => h.block k hk⟩
def byteV (x : UInt8) : Value := .int .u8 x.toNat
/-- Bytes that lie at an address, below block B. -/
def RdB (w : World) (B : Nat) (A : Option Addr) (l : List UInt8) : Prop :=
  ∀ k x, l[k]? = some x → ∃ ad : Addr, A = some ad ∧ ad.block < B ∧ w.cell? (ad.add k) = some (byteV x)
theorem RdB.below {w w' : World} {B B' : Nat} {A : Option Addr} {l : List UInt8} (h : RdB w B A l) (hb : Below B' w w') (hB : B ≤ B') : RdB w' B A l := fun k x hx => by
  obtain ⟨ad, e, hlt, hc⟩ := h k x hx
  exact ⟨ad, e, hlt, (hb.cell (by rw [add_block]; omega)).trans hc⟩
theorem RdB.mono {w : World} {B B' : Nat} {A : Option Addr} {l : List UInt8} (h : RdB w B A l) (hB : B ≤ B') : RdB w B' A l := fun k x hx => by
  obtain ⟨ad, e, hlt, hc⟩ := h k x hx
  exact ⟨ad, e, by omega, hc⟩
theorem RdB.step {w w' : World} {A : Option Addr} {l : List UInt8} (h : RdB w w.heap.size A l) (hb : Below w.heap.size w w') : RdB w' w'.heap.size A l := (h.below hb (Nat.le_refl _)).mono hb.size
theorem RdB.nil (w : World) (B : Nat) (A : Option Addr) : RdB w B A [] := fun k x hx => by simp at hx
theorem RdB.own {w : World} {base n c : Nat} {e : TypeId} {A : Option Addr} {l : List UInt8} (h : w.ownsRow base e 1 (.slice A n c) n (l.map byteV)) : RdB w w.heap.size A l := fun k x hx => by
  rcases h.2 with ⟨hv, h0⟩ | ⟨g, cap, cur, hv, _, hg, _⟩
  · have := h.1
    rw [h0] at this
    simp at this
    subst this
    simp at hx
  · injection hv with hA
    subst hA
    refine ⟨_, rfl, (Array.getElem?_eq_some_iff.1 hg).1, h.cells (g := g) rfl k _ ?_⟩
    rw [List.getElem?_map, hx]; rfl
theorem ownsRow_cap {w : World} {base n c size : Nat} {e : TypeId} {A : Option Addr} {xs : List Value} (h : w.ownsRow base e size (.slice A n c) n xs) : n ≤ c := by
  rcases h.2 with ⟨hv, h0⟩ | ⟨g, cap, cur, hv, _, _, hc, _⟩
  · omega
  · injection hv with _ _ h3; omega
theorem ownsRow_slice {w : World} {base n size : Nat} {e : TypeId} {v : Value} {xs : List Value} (h : w.ownsRow base e size v n xs) : ∃ A c, v = .slice A n c := by
  rcases h.2 with ⟨rfl, rfl⟩ | ⟨g, cap, cur, rfl, _⟩
  · exact ⟨_, _, rfl⟩
  · exact ⟨_, _, rfl⟩
theorem own_below {w w' : World} {base n size : Nat} {e : TypeId} {v : Value} {xs : List Value} (h : w.ownsRow base e size v n xs) (hb : Below w.heap.size w w') : w'.ownsRow base e size v n xs := by
  refine h.kept (grownBy_below hb) ?_
  cases v.ownBlock with
  | none => exact .inl rfl
  | some g => exact .inr (by simp)
/-- A slice's capacity; nothing's is none. -/
def Caps (A : Option Addr) (n c : Nat) : Prop := n ≤ c ∧ (A = none → c = 0)
theorem ownsRow_caps {w : World} {base n c size : Nat} {e : TypeId} {A : Option Addr} {xs : List Value} (h : w.ownsRow base e size (.slice A n c) n xs) : Caps A n c := by
  refine ⟨ownsRow_cap h, ?_⟩
  rintro rfl
  rcases h.2 with ⟨hv, h0⟩ | ⟨g, cap, cur, hv, _⟩
  · injection hv
  · injection hv with h1; cases h1
/-- A call's answer: a slice of these bytes. -/
def Bytes (w0 : World) (l : List UInt8) (e : Ending) (w' : World) : Prop :=
  ∃ A c, e = .returned (.slice A l.length c) ∧ Caps A l.length c ∧ RdB w' w'.heap.size A l ∧ Below w0.heap.size w0 w'

theorem info_byte : (Try.prog.info? 5).map (fun i => (i.zero, i.size, i.bytes)) = some (some (.int .u8 0), 1, 1) := by kernel_rfl

theorem run_append_nil {P : Program} {w : World} (base : Nat) (t ty e : TypeId) (i : TypeInfo) (size : Nat) (ht : P.underlying t = some (.slice e)) (hi : P.info? e = some i)
    (v : Value) (n : Nat) (xs : List Value) (hown : w.ownsRow base e size v n xs) (c : Nat) : (Builtin.append_ #[t, t] ty #[v, .slice none 0 c]).run P w = .ok v w := by
  rcases hown.2 with ⟨rfl, rfl⟩ | ⟨g, cap, cur, rfl, _, _, hnc, _⟩
  · simp [Builtin.append_, run_underlying ht, sizeOf, typeInfo, hi, Builtin.lenOf, Builtin.firstCells]
  · simp [Builtin.append_, run_underlying ht, sizeOf, typeInfo, hi, Builtin.lenOf, Builtin.firstCells, hnc, storeCells]
/-- append onto a row of the call's own of a slice that reads as bytes, nil or not. -/
theorem wpList_append_bytes {P : Program} {w : World} {ops : Array Oper} {rest : List Oper} {o : Oper} {a : Act} {Q : Exit → Act → World → Prop} (hgd : o.guard = none) (s x : Operand) (t : TypeId)
    (ho : o.op = .call { callee := .builtin .append, args := #[s, x], argTypes := #[t, t] })
    (base : Nat) (e : TypeId) (i : TypeInfo) (ht : P.underlying t = some (.slice e)) (hi : P.info? e = some i) (hz : i.zero = some (.int .u8 0)) (hsize : i.size = 1) (hby : i.bytes = 1)
    (v : Value) (n : Nat) (xs : List Value) (hs : a.eval s = v) (hown : w.ownsRow base e 1 v n xs)
    (A : Option Addr) (m c B : Nat) (cs : List UInt8) (hx : a.eval x = .slice A m c) (hm : m = cs.length) (hr : RdB w B A cs)
    (h63 : n + m ≤ maxLen) (hbytes : (n + m) * 1 ≤ 140737488355328) (hbase : base ≤ w.heap.size)
    (h : ∀ v' w', w'.ownsRow base e 1 v' (n + m) (xs ++ cs.map byteV) → w.grownBy w' v.ownBlock → wpList P ops Q rest (a.put o.dst v') w') : wpList P ops Q (o :: rest) a w := by
  rcases A with _ | ad
  · have h0 : cs = [] := by
      cases cs with
      | nil => rfl
      | cons y r => obtain ⟨ad, e', _⟩ := hr 0 y rfl; cases e'
    subst h0
    obtain rfl : m = 0 := hm
    refine wpList_plain hgd fun K hK => ?_
    have hrun := run_append_nil (P := P) (w := w) base t o.type e i 1 ht hi v n xs hown c
    unfold Oper.wp
    simp [execOp, ho, resolve, invoke, builtin, hs, hx, hrun, Result.andThen]
    exact hK _ _ (h v w (by simpa using hown) (World.grownBy.refl w _))
  · refine wpList_append_own w hgd s x t ho base e i (.int .u8 0) 1 1 ht hi hz hsize hby rfl (by decide) v n xs hs hown ad m c (cs.map byteV) hx (by simp [hm]) ?_ ?_ h63 hbytes hbase (fun v' w' h1 h2 _ => h v' w' h1 h2)
    · intro j u hu
      rw [List.getElem?_map, Option.map_eq_some_iff] at hu
      obtain ⟨y, hy, rfl⟩ := hu
      obtain ⟨ad', e', _, hc⟩ := hr j y hy
      cases e'
      exact hc
    · intro u hu
      obtain ⟨y, _, rfl⟩ := List.mem_map.1 hu
      rfl

set_option maxHeartbeats 1000000 in
/-- slices.Grow of nothing: a row with room. -/
theorem grow_any (n : Nat) (w : World) (hn : n ≤ 100000000) :
    Calls Try.prog 61 #[.slice none 0 0, .int .i64 n] w fun e w' => (∃ v, e = .returned v ∧ w'.ownsRow w.heap.size 5 1 v 0 []) ∧ Below w.heap.size w w' := by
  obtain ⟨i0, hi, hz0, hz1, hz2⟩ := info_parts info_byte
  by_cases h0 : n = 0
  · have h1 : ¬ (0 : Int) < n := by omega
    have h2 : (0 : Int) ≤ n := by omega
    clear h0
    go_enter Try.func61, Try.ntmps61
    go_wp2_with fail
    refine bodyPost_ret (results_tmp rfl _ _ _) rfl ⟨⟨_, rfl, World.ownsRow_nil _ _ _ _⟩, Below.refl _ _⟩
  · have h1 : (0 : Int) < n := by omega
    have h2 : (0 : Int) ≤ n := by omega
    have h3 : (n : Int) ≤ 100000000 := by omega
    have hold : (Builtin.firstCells i0.size 0 (.slice none 0 0)).run Try.prog w.drew = .ok ([] : List Value).toArray w.drew := by simp [Builtin.firstCells]
    have hrz : ∀ ty, (Builtin.append_ #[22, 3] ty #[.slice none 0 0, .int .i64 n]).run Try.prog w =
      .ok (.slice (some ⟨w.heap.size, 0, none⟩) n (grownCap w n 0 5)) (w.drew.alloc (.cells (Builtin.zeroCells (Value.int .u8 0).cells n ++ Builtin.zeroCells (Value.int .u8 0).cells (grownCap w n 0 5 - n)) 5)) := fun ty => by
      have h := Lib.run_append_grow_zeros w 22 3 ty 5 i0 (.int .u8 0) .i64 .i64 Try.underlying22 Try.underlying3 hi hz0 none 0 0 [] hold n (by omega) (by omega) (by omega) (by omega) (by rw [hz2]; omega)
        (by rw [Nat.zero_add]; exact growslice_fits (by omega) (by rw [hz2]; omega))
      simpa using h
    have hG := grownCap_ge w n 0 5
    have hG2 := grownCap_le_maxLen w n 0 5 (by unfold maxLen; omega)
    have hG3 : ((grownCap w n 0 5 : Nat) : Int) ≤ 9223372036854775807 := by unfold maxLen at hG2; omega
    have hG4 : (n : Int) ≤ ((grownCap w n 0 5 : Nat) : Int) := by omega
    have hcs : (Builtin.zeroCells (Value.int .u8 0).cells n ++ Builtin.zeroCells (Value.int .u8 0).cells (grownCap w n 0 5 - n)).size = grownCap w n 0 5 * 1 := by
      simp [Builtin.zeroCells, Value.cells]; omega
    have hown : (w.drew.alloc (.cells (Builtin.zeroCells (Value.int .u8 0).cells n ++ Builtin.zeroCells (Value.int .u8 0).cells (grownCap w n 0 5 - n)) 5)).ownsRow w.heap.size 5 1 (.slice (some ⟨w.heap.size, 0, none⟩) 0 (grownCap w n 0 5)) 0 [] :=
      World.ownsRow_made (base := w.heap.size) (e := 5) (size := 1) w.drew _ _ (Nat.le_refl _) hG2 hcs
    have hB : Below w.heap.size w (w.drew.alloc (.cells (Builtin.zeroCells (Value.int .u8 0).cells n ++ Builtin.zeroCells (Value.int .u8 0).cells (grownCap w n 0 5 - n)) 5)) := (Below.refl _ w).drew.alloc (Nat.le_refl _) _
    have HO := hide hown
    have HB := hide hB
    clear hown hB hcs hold
    generalize hX : w.drew.alloc (.cells (Builtin.zeroCells (Value.int .u8 0).cells n ++ Builtin.zeroCells (Value.int .u8 0).cells (grownCap w n 0 5 - n)) 5) = wx at HO HB hrz
    generalize hGG : grownCap w n 0 5 = G at HO hrz hG3 hG4
    clear hX hGG hG hG2 h0
    go_enter Try.func61, Try.ntmps61
    go_wp2_with (at_builtin; refine Lib.wpList_append_run _ rfl _ _ _ _ rfl _ _ rfl rfl _ _ (hrz _) ?_)
    refine bodyPost_ret (results_tmp rfl _ _ _) rfl ⟨⟨.slice (some ⟨w.heap.size, 0, none⟩) 0 G, rfl, HO.out⟩, HB.out⟩

/-- The bytes of some slices, one behind the other. -/
def allB (L : List (Option Addr × List UInt8 × Nat)) : List UInt8 := L.flatMap (·.2.1)
theorem allB_succ (L : List (Option Addr × List UInt8 × Nat)) (k : Nat) (x : Option Addr × List UInt8 × Nat) (hx : L[k]? = some x) : allB (L.take (k + 1)) = allB (L.take k) ++ x.2.1 := by
  obtain ⟨h, e⟩ := List.getElem?_eq_some_iff.1 hx
  rw [List.take_succ_eq_append_getElem h, e]
  simp [allB]

set_option maxHeartbeats 2000000 in
theorem concat_any (g c : Nat) (L : List (Option Addr × List UInt8 × Nat)) (w : World) (hrow : ∀ k x, L[k]? = some x → w.cell? ⟨g, k, none⟩ = some (.slice x.1 x.2.1.length x.2.2)) (hg : g < w.heap.size)
    (hR : ∀ x ∈ L, RdB w w.heap.size x.1 x.2.1) (hn : L.length ≤ 3) (hs : ∀ x ∈ L, x.2.1.length ≤ 1000000) :
    Calls Try.prog 55 #[.slice (some ⟨g, 0, none⟩) L.length c] w (Bytes w (allB L)) := by
  obtain ⟨i0, hi, hz0, hz1, hz2⟩ := info_parts info_byte
  have HR := hide hR
  have HS := hide hs
  have HW := hide hrow
  clear hR hs hrow
  go_enter Try.func55, Try.ntmps55
  go_wp2_with fail
  go_loopw [3, 11] (fun s i wr => ∃ k : Nat, k ≤ L.length ∧ i = .int .i64 k ∧ s = .int .i64 ((allB (L.take k)).length : Nat) ∧ (allB (L.take k)).length ≤ 1000000 * k ∧ wr = w) (fun _ i _ => L.length - (intOf i).toNat)
  case atStart => exact ⟨0, Nat.zero_le _, rfl, rfl, by simp [allB], rfl⟩
  case round =>
    obtain ⟨k, hk, rfl, rfl, hb, rfl⟩ := hrel
    by_cases hlt : (k : Int) < L.length
    · have hlt' : k < L.length := by omega
      have hx := List.getElem?_eq_getElem hlt'
      have hc := HW.out k _ hx
      have hm := HS.out L[k] (List.getElem_mem hlt')
      have hsn := congrArg List.length (allB_succ L k _ hx)
      rw [List.length_append] at hsn
      have HN := hide hsn
      clear hsn hx
      generalize L[k] = x at hc hm HN
      obtain ⟨xa, xl, xc⟩ := x
      simp only at hc hm HN
      have q1 : (0 : Int) ≤ ((allB (L.take k)).length : Nat) + (xl.length : Nat) := by omega
      have q2 : (((allB (L.take k)).length : Nat) : Int) ≤ 3000000 := by omega
      have q3 : ((xl.length : Nat) : Int) ≤ 1000000 := by omega
      go_wp2_with fail
      go_roundw
      case rel => exact ⟨k + 1, by omega, rfl, by rw [HN.out]; simp, by rw [HN.out]; omega, trivial⟩
      case measure => simp [intOf]; omega
    · have hk' : k = L.length := by omega
      have HE := hide (show (allB (L.take k)).length = (allB L).length by rw [hk', List.take_length])
      have hbl : (allB L).length ≤ 3000000 := by rw [← HE.out]; omega
      rw [HE.out]
      clear hk' hb
      go_wp2_with fail
      refine (grow_any _ _ (by omega)).mono ?_
      rename World => w0
      rintro e w1 ⟨⟨v, rfl, hO⟩, hB1⟩
      clear HE hlt hk
      go_wp2_with fail
      go_loopw [6, 27] (fun s i wr2 => ∃ k : Nat, k ≤ L.length ∧ i = .int .i64 k ∧ wr2.ownsRow w0.heap.size 5 1 s (allB (L.take k)).length ((allB (L.take k)).map byteV) ∧ (allB (L.take k)).length ≤ 1000000 * k ∧ Below w0.heap.size w0 wr2 ) (fun _ i _ => L.length - (intOf i).toNat)
      case atStart => exact ⟨0, Nat.zero_le _, rfl, by simpa [allB] using hO, by simp [allB], hB1⟩
      case round =>
        obtain ⟨k, hk, rfl, hO2, hb, hBa⟩ := hrel
        by_cases hlt : (k : Int) < L.length
        · have hlt' : k < L.length := by omega
          have hx := List.getElem?_eq_getElem hlt'
          have hc := (hBa.cell (p := ⟨g, k, none⟩) hg).trans (HW.out k _ hx)
          have hRx := (HR.out L[k] (List.getElem_mem hlt')).step hBa
          have hm := HS.out L[k] (List.getElem_mem hlt')
          have hsn := allB_succ L k _ hx
          have HN := hide hsn
          clear hsn hx
          generalize L[k] = x at hc hm HN hRx
          obtain ⟨xa, xl, xc⟩ := x
          simp only at hc hm HN hRx
          go_wp2_with (at_builtin; refine wpList_append_bytes rfl _ _ 22 rfl w0.heap.size 5 i0 Try.underlying22 hi hz0 hz1 hz2 _ _ _ rfl hO2 xa _ xc _ xl rfl rfl hRx (by unfold maxLen; omega) (by omega) hBa.size ?_)
          intro v' w' hO3 hg3
          go_wp2_with fail
          go_roundw
          case rel => exact ⟨k + 1, by omega, rfl, by rw [HN.out, List.length_append, List.map_append]; exact hO3, by rw [HN.out, List.length_append]; omega, hBa.grown hg3 hBa.size (fun r e => (hO2.lt r e).1)⟩
          case measure => simp [intOf]; omega
        · have hk' : k = L.length := by omega
          have HE := hide (show allB (L.take k) = allB L by rw [hk', List.take_length])
          rw [HE.out] at hO2
          clear hk' hb
          obtain ⟨A, cc, rfl⟩ := ownsRow_slice hO2
          go_wp2_with fail
          refine bodyPost_ret (results_tmp rfl _ _ _) rfl ⟨A, cc, rfl, ownsRow_caps hO2, RdB.own hO2, hBa⟩
end Go.Proofs.Ytpefcadlejcbbaa
