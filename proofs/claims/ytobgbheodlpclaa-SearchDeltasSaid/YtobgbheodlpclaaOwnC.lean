/-
  Bytes that a conversion has made, and what is appended to them: a row of the call's own, whatever mark it bears behind its cells.
-/
import Derived.Test.YtobgbheodlpclaaAutoBytes
import Derived.ArgAppend
namespace Go.Proofs.Ytobgbheodlpclaa
open Go.RowKit
set_option maxRecDepth 100000

/-- Bytes in a block from base on, with room behind them that may be written. -/
def OwnC (w : World) (base : Nat) (v : Value) (l : List UInt8) : Prop :=
  ∃ g cap, v = .slice (some ⟨g, 0, none⟩) l.length cap ∧ base ≤ g ∧ g < w.heap.size ∧ l.length ≤ cap ∧ cap ≤ maxLen ∧
    (∀ j, j < cap → (w.cell? ⟨g, j, none⟩).isSome = true ∧ w.frozen? ⟨g, j, none⟩ = false) ∧ (∀ j x, l[j]? = some x → w.cell? ⟨g, j, none⟩ = some (byteV x))
theorem addC_off (g k : Nat) : ((⟨g, 0, none⟩ : Addr).add k) = ⟨g, k, none⟩ := by unfold Addr.add; split <;> simp_all
theorem OwnC.step {w w' : World} {base : Nat} {v : Value} {l : List UInt8} (h : OwnC w base v l) (hb : Below w.heap.size w w') : OwnC w' base v l := by
  obtain ⟨g, cap, h1, h2, h3, h4, h5, h6, h7⟩ := h
  refine ⟨g, cap, h1, h2, Nat.lt_of_lt_of_le h3 hb.size, h4, h5, fun j hj => ?_, fun j x hx => ?_⟩
  · obtain ⟨a, b⟩ := h6 j hj
    exact ⟨by rw [hb.cell (p := ⟨g, j, none⟩) h3]; exact a, by rw [hb.frozen (p := ⟨g, j, none⟩) h3]; exact b⟩
  · rw [hb.cell (p := ⟨g, j, none⟩) h3]; exact h7 j x hx
theorem OwnC.bytes {w : World} {base : Nat} {v : Value} {l : List UInt8} (h : OwnC w base v l) : ∃ A c, v = .slice A l.length c ∧ Caps A l.length c ∧ RdB w w.heap.size A l := by
  obtain ⟨g, cap, h1, h2, h3, h4, h5, h6, h7⟩ := h
  exact ⟨_, _, h1, ⟨h4, fun e => by cases e⟩, fun k x hx => ⟨_, rfl, h3, by rw [addC_off]; exact h7 k x hx⟩⟩
theorem OwnC.block {w : World} {base : Nat} {v : Value} {l : List UInt8} (h : OwnC w base v l) : ∀ r, v.ownBlock = some r → base ≤ r := by
  obtain ⟨g, cap, h1, h2, h3, h4, h5, h6, h7⟩ := h
  subst h1
  intro r hr
  cases hr
  exact h2
theorem OwnC.made (w : World) (s : ByteArray) (hs : s.size ≤ maxLen) : OwnC (Lib.bytesWorld w 5 s) w.heap.size (.slice (some ⟨w.heap.size, 0, none⟩) s.size (grownCap w s.size 0 5)) (toL s) := by
  have hl : (toL s).length = s.size := by simp [toL]
  have hn := Lib.bytesWorld_at_new w 5 s
  have hge := grownCap_ge w s.size 0 5
  have hsz : (Lib.bytesCells w 5 s).size = grownCap w s.size 0 5 := by simp [Lib.bytesCells]; omega
  refine ⟨_, _, by rw [hl], Nat.le_refl _, by rw [Lib.bytesWorld_size]; omega, by rw [hl]; exact hge, grownCap_le_maxLen w _ 0 _ hs, fun j hj => ?_, fun j x hx => ?_⟩
  · constructor
    · unfold World.cell?
      rw [hn]
      simp [hsz, hj]
    · unfold World.frozen?
      rw [hn]
      simp [hsz]
      omega
  · obtain ⟨ad, e, _, hc⟩ := (made_bytes w s).1 j x hx
    cases e
    rw [addC_off] at hc
    exact hc
theorem OwnC.of {w : World} {base n : Nat} {e : TypeId} {v : Value} {l : List UInt8} (h : w.ownsRow base e 1 v n (l.map byteV)) (hn : 0 < n) : OwnC w base v l := by
  have hl : l.length = n := by have := h.1; simpa using this
  rcases h.2 with ⟨_, h0⟩ | ⟨g, cap, cur, hv, hb, hg, hc, hm, hs, ht⟩
  · omega
  · subst hv
    refine ⟨g, cap, by rw [hl], hb, (Array.getElem?_eq_some_iff.1 hg).1, by omega, hm, fun j hj => ?_, fun j x hx => ?_⟩
    · constructor
      · rw [cell_of_row _ _ j _ _ _ hg]; simp; omega
      · exact frozen_of_row _ _ _ _ _ hg
    · have := h.cells (g := g) rfl j (byteV x) (by rw [List.getElem?_map, hx]; rfl)
      rwa [addC_off] at this
theorem grown_setCells (w : World) (g o : Nat) (vs : List Value) : w.grownBy (w.setCells g o vs) (some g) := by
  induction vs generalizing w o with
  | nil => exact World.grownBy.refl w _
  | cons v r ih =>
    have h1 : w.grownBy (w.setCell ⟨g, o, none⟩ v) (some g) := ⟨rfl, rfl, rfl, by simp [World.setCell], fun k _ hk => Below.heap_setCell w ⟨g, o, none⟩ v k (fun e => hk (by rw [e]))⟩
    have h2 := ih (w.setCell ⟨g, o, none⟩ v) (o + 1)
    exact ⟨h2.os.trans h1.os, h2.tape.trans h1.tape, h2.output.trans h1.output, Nat.le_trans h1.size h2.size, fun k hk hne => (h2.block k (Nat.lt_of_lt_of_le hk h1.size) hne).trans (h1.block k hk hne)⟩
theorem OwnC.append {P : Program} {w : World} {base : Nat} {v : Value} {l : List UInt8} (h : OwnC w base v l) (t ty e : TypeId) (i : TypeInfo) (ht : P.underlying t = some (.slice e)) (hi : P.info? e = some i) (hz : i.zero = some (.int .u8 0)) (hsize : i.size = 1) (hby : i.bytes = 1)
    (A : Option Addr) (m c B : Nat) (cs : List UInt8) (hm : m = cs.length) (hr : RdB w B A cs) (h63 : l.length + m ≤ maxLen) (hbytes : (l.length + m) * 1 ≤ 140737488355328) :
    ∃ v' w', (Builtin.append_ #[t, t] ty #[v, .slice A m c]).run P w = .ok v' w' ∧ OwnC w' base v' (l ++ cs) ∧ w.grownBy w' v.ownBlock := by
  have h0 := h
  obtain ⟨g, cap, rfl, h2, h3, h4, h5, h6, h7⟩ := h
  rcases A with _ | ad
  · have hcs : cs = [] := hr.of_none
    subst hcs
    obtain rfl : m = 0 := hm
    refine ⟨_, w, ?_, by simpa using h0, World.grownBy.refl w _⟩
    simp [Builtin.append_, run_underlying ht, sizeOf, typeInfo, hi, Builtin.lenOf, Builtin.firstCells, h4, storeCells]
  · have hnews : ∀ j u, (cs.map byteV)[j]? = some u → w.cell? (ad.add j) = some u := by
      intro j u hu
      rw [List.getElem?_map, Option.map_eq_some_iff] at hu
      obtain ⟨y, hy, rfl⟩ := hu
      obtain ⟨ad', e', _, hc⟩ := hr j y hy
      cases e'
      exact hc
    have h1 : ∀ u ∈ cs.map byteV, u.oneCell' = true := by
      intro u hu
      obtain ⟨y, _, rfl⟩ := List.mem_map.1 hu
      rfl
    have hll : (cs.map byteV).length = m * i.size := by rw [hsize]; simp [hm]
    by_cases hroom : l.length + m ≤ cap
    · have hr2 := run_append_room_cells (P := P) w t ty e i ht hi g 0 l.length cap ad m c (cs.map byteV) hll hnews h1 hroom
        (fun j hj => by rw [hsize]; exact (h6 _ (by simp at hj; omega)).1) (fun j hj => by rw [hsize]; exact (h6 _ (by simp at hj; omega)).2)
      rw [hsize, show 0 + l.length * 1 = l.length by omega] at hr2
      have hg := grown_setCells w g l.length (cs.map byteV)
      have hin := World.cell?_setCells_in g (cs.map byteV) l.length w (fun j hj => (h6 _ (by simp at hj; omega)).1)
      refine ⟨_, _, hr2, ⟨g, cap, by rw [List.length_append, hm], h2, Nat.lt_of_lt_of_le h3 hg.size, by rw [List.length_append]; omega, h5, fun j hj => ?_, fun j x hx => ?_⟩, hg⟩
      · refine ⟨?_, by rw [World.frozen?_setCells]; exact (h6 j hj).2⟩
        by_cases hj2 : l.length ≤ j ∧ j < l.length + (cs.map byteV).length
        · obtain ⟨k, rfl⟩ : ∃ k, j = l.length + k := ⟨j - l.length, by omega⟩
          rw [hin k (by omega)]; rfl
        · rw [World.cell?_setCells_out g _ _ _ _ (fun _ _ => by show j < _ ∨ _ ≤ j; omega)]
          exact (h6 j hj).1
      · by_cases hj2 : j < l.length
        · rw [List.getElem?_append_left hj2] at hx
          rw [World.cell?_setCells_out g _ _ _ _ (fun _ _ => by show j < _ ∨ _ ≤ j; omega)]
          exact h7 j x hx
        · rw [List.getElem?_append_right (by omega)] at hx
          obtain ⟨k, rfl⟩ : ∃ k, j = l.length + k := ⟨j - l.length, by omega⟩
          rw [show l.length + k - l.length = k by omega] at hx
          have hk := (List.getElem?_eq_some_iff.1 hx).1
          rw [hin k (by simpa using hk)]
          congr 1
          rw [List.getElem_map]
          congr 1
          exact (List.getElem?_eq_some_iff.1 hx).2
    · obtain ⟨v', w', hr2, ho, hg⟩ := run_append_arg_grows (P := P) w t ty e i _ 1 1 ht hi hz hsize hby rfl (by decide) ⟨g, 0, none⟩ l.length cap (l.map byteV) (by simp)
        (fun j u hu => by
          rw [List.getElem?_map, Option.map_eq_some_iff] at hu
          obtain ⟨y, hy, rfl⟩ := hu
          rw [addC_off]
          exact h7 j y hy) ad m c (cs.map byteV) (by simp [hm]) hnews (by omega) h63 hbytes
      rw [← List.map_append] at ho
      refine ⟨v', w', hr2, ?_, ⟨hg.os, hg.tape, hg.output, hg.size, fun k hk _ => hg.block k hk (by simp)⟩⟩
      have ho2 := OwnC.of ho (by omega)
      obtain ⟨g', cap', q1, q2, q3⟩ := ho2
      exact ⟨g', cap', q1, by omega, q3⟩
/-- append onto bytes that a conversion has made. -/
theorem wpList_append_ownC {P : Program} {w : World} {ops : Array Oper} {rest : List Oper} {o : Oper} {a : Act} {Q : Exit → Act → World → Prop} (hgd : o.guard = none) (s x : Operand) (t : TypeId)
    (ho : o.op = .call { callee := .builtin .append, args := #[s, x], argTypes := #[t, t] })
    (base : Nat) (e : TypeId) (i : TypeInfo) (ht : P.underlying t = some (.slice e)) (hi : P.info? e = some i) (hz : i.zero = some (.int .u8 0)) (hsize : i.size = 1) (hby : i.bytes = 1)
    (v : Value) (l : List UInt8) (hs : a.eval s = v) (hown : OwnC w base v l)
    (A : Option Addr) (m c B : Nat) (cs : List UInt8) (hx : a.eval x = .slice A m c) (hm : m = cs.length) (hr : RdB w B A cs)
    (h63 : l.length + m ≤ maxLen) (hbytes : (l.length + m) * 1 ≤ 140737488355328)
    (h : ∀ v' w', OwnC w' base v' (l ++ cs) → w.grownBy w' v.ownBlock → wpList P ops Q rest (a.put o.dst v') w') : wpList P ops Q (o :: rest) a w := by
  refine wpList_plain hgd fun K hK => ?_
  obtain ⟨v', w', hrun, q1, q2⟩ := hown.append t o.type e i ht hi hz hsize hby A m c B cs hm hr h63 hbytes
  unfold Oper.wp
  simp [execOp, ho, resolve, invoke, builtin, hs, hx, hrun, Result.andThen]
  exact hK _ _ (h v' w' q1 q2)
end Go.Proofs.Ytobgbheodlpclaa
