/-
  The reference's Do.
-/
import Derived.Test.YtfknfpngcnianaaLkRefPut
namespace Go.Proofs.Ytfknfpngcnianaa
open Go.RowKit
set_option maxRecDepth 100000

/-- What a call makes of a way: the way, the bytes that are told, whether it was done. -/
def stepQ (q : Way) (kd i at_ : Int) (mask : Nat) (b : List UInt8) : Way × List UInt8 × Bool :=
  if kd = 0 then (({ q with sent := q.sent + 1 } : Way).put ⟨b, false⟩, [], true)
  else if i < 0 ∨ (q.l.length : Int) ≤ i then (q, [], false)
  else if kd = 1 then (q.took i.toNat, ((q.l[i.toNat]?).getD ⟨[], false⟩).b, true)
  else if kd = 2 then (q.lose i.toNat, [], true)
  else if kd = 3 then (q.put ((q.l[i.toNat]?).getD ⟨[], false⟩), [], true)
  else if ((q.l[i.toNat]?).getD ⟨[], false⟩).t = true then (q, [], false)
  else ({ q with l := q.l.set i.toNat ⟨turnL ((q.l[i.toNat]?).getD ⟨[], false⟩).b at_ mask, true⟩ }, [], true)
theorem stepQ_send (q : Way) (i at_ : Int) (mask : Nat) (b : List UInt8) : stepQ q 0 i at_ mask b = (({ q with sent := q.sent + 1 } : Way).put ⟨b, false⟩, [], true) := by unfold stepQ; rw [if_pos rfl]
theorem stepQ_out (q : Way) (kd i at_ : Int) (mask : Nat) (b : List UInt8) (h0 : kd ≠ 0) (h : i < 0 ∨ (q.l.length : Int) ≤ i) : stepQ q kd i at_ mask b = (q, [], false) := by unfold stepQ; rw [if_neg h0, if_pos h]
theorem stepQ_in (q : Way) (kd : Int) (i : Nat) (at_ : Int) (mask : Nat) (b : List UInt8) (p : Pk) (h0 : kd ≠ 0) (h : q.l[i]? = some p) : stepQ q kd i at_ mask b =
    if kd = 1 then (q.took i, p.b, true) else if kd = 2 then (q.lose i, [], true) else if kd = 3 then (q.put p, [], true) else if p.t = true then (q, [], false) else ({ q with l := q.l.set i ⟨turnL p.b at_ mask, true⟩ }, [], true) := by
  have hl := (List.getElem?_eq_some_iff.1 h).1
  unfold stepQ
  rw [if_neg h0, if_neg (by omega), Int.toNat_natCast, h]
  rfl
/-- A call's cells. -/
def actC (kd wy i at_ : Int) (mask : Nat) (b : List UInt8) : Array Value := #[.int .i64 kd, .int .i64 wy, .int .i64 i, .int .i64 at_, .int .u32 mask, .string (ofL b)]
theorem results_row3 {P : Program} {fn : Func} {p a b : Tmp} {ty : TypeId} (h : fn.results = #[.cell p ty, .tmp a, .tmp b]) (tmps : Array Value) (w : World) (g : Nat) (t : TypeId) (cs : Array Value) (fr : Nat × Nat) (d : TypeDesc)
    (hp : tmps.getD p undef = .pointer (some ⟨g, 0, none⟩)) (hg : w.heap[g]? = some (.cells cs t fr))
    (hu : P.underlying ty = some d) (hd : (match d with | .struct _ | .array _ _ => true | _ => false) = true) (hi : (P.info? ty).map (·.size) = some cs.size) :
    (results fn tmps).run P w = .ok (.tuple #[.agg cs, tmps.getD a undef, tmps.getD b undef]) w := by
  have hp' : tmps[p]?.getD undef = .pointer (some ⟨g, 0, none⟩) := by simpa using hp
  simp [results, h, hp', asAddr, run_loadVar_row w g t ty cs fr d hg hu hd hi]
def zero6 : Array Value := #[.slice none 0 0, .slice none 0 0, .int .i64 0, .int .i64 0, .int .i64 0, .int .i64 0]
/-- The state as it was, told again. -/
theorem below_rows {w V : World} {Y : Array Value} {t : TypeId} {b : Nat} (h : Below w.heap.size w V) (hb : w.heap.size ≤ b) (Z : Array Value) (_ : V.heap[b]? = some (.cells Y t (0, 0))) : Below w.heap.size w (V.setRow b Z) := below_row h hb Z
theorem st_size {X : Array Value} (hX : X.size = 6) : (Try.prog.info? 31).map (·.size) = some X.size := by rw [hX]; kernel_rfl
theorem all_of {X : Array Value} (h1 : ∀ v ∈ X.toList, v.oneCell' = true) : X.all (·.oneCell') = true := Array.all_eq_true_iff_forall_mem.2 (fun x hx => h1 x (Array.mem_toList_iff.2 hx))

set_option maxHeartbeats 4000000 in
theorem refDo_bad (kd wy i at_ : Int) (mask : Nat) (b : List UInt8) (X : Array Value) (w : World) (hX : X.size = 6) (h1 : ∀ v ∈ X.toList, v.oneCell' = true) (hw0 : wy ≠ 0) (hw1 : wy ≠ 1) :
    Calls Try.prog 9 #[.agg X, .agg (actC kd wy i at_ mask b)] w fun e w' => e = .returned (.tuple #[.agg X, .string ⟨#[]⟩, .bool false]) ∧ Below w.heap.size w w' := by
  obtain ⟨r0, r1, r2, hW⟩ := rows3 w X (actC kd wy i at_ mask b) zero6 31 34 31
  have e1 := cell_of_row _ _ 1 _ _ _ r1
  have t0 : (wy != 0) = true := by simpa using hw0
  have t1 : (wy != 1) = true := by simpa using hw1
  have HX := hide (st_size hX)
  have HA1 := hide (all_of h1)
  have H6 := hide hX
  unfold zero6 actC at *
  clear h1 hX hw0 hw1
  go_enter Try.func9, Try.ntmps9
  go_upto_region 2 with fail
  have r2 : (((w.alloc (.cells X 31)).alloc (.cells #[.int .i64 kd, .int .i64 wy, .int .i64 i, .int .i64 at_, .int .u32 mask, .string (ofL b)] 34)).alloc (.cells #[.slice none 0 0, .slice none 0 0, .int .i64 0, .int .i64 0, .int .i64 0, .int .i64 0] 31)).heap[w.heap.size + 1 + 1]? = _ := r2
  generalize (((w.alloc (.cells X 31)).alloc (.cells #[.int .i64 kd, .int .i64 wy, .int .i64 i, .int .i64 at_, .int .u32 mask, .string (ofL b)] 34)).alloc (.cells #[.slice none 0 0, .slice none 0 0, .int .i64 0, .int .i64 0, .int .i64 0, .int .i64 0] 31)) = V at r0 r1 r2 hW ⊢
  go_wp2_with (first
    | (refine wpList_load_row rfl 31 (.tmp 2) rfl w.heap.size rfl 31 X (0, 0) _ r0 Try.underlying31 rfl HX.out ?_)
    | (refine wpList_store_row rfl 31 (.tmp 4) (.tmp 19) rfl (w.heap.size + 1 + 1) X rfl rfl 31 _ r2 HX.out (by rw [H6.out]; rfl) HA1.out ?_))
  exact bodyPost_ret (results_row3 rfl _ _ (w.heap.size + 1 + 1) 31 X (0, 0) _ rfl (setRow_heap V _ _ X _ _ r2) Try.underlying31 rfl HX.out) rfl ⟨rfl, below_row hW (by omega) X⟩

/-- Which way: 0 or 1, as the tests spell it. -/
theorem two_ways {k : Nat} (hk : k < 2) : ((k : Int) != 0) = false ∨ (((k : Int) != 0) = true ∧ ((k : Int) != 1) = false) := by
  have : k = 0 ∨ k = 1 := by omega
  rcases this with rfl | rfl
  · exact .inl rfl
  · exact .inr ⟨rfl, rfl⟩
/-- What 'put' leaves, told as the caller's. -/
theorem PTo.caller {w U W : World} {X X2 X' : Array Value} {k : Nat} {q : Way} (hb : Below w.heap.size w U) (h : PTo U X2 k q X' W) (hoff : ∀ j, j ≠ k → j ≠ 2 + k → j ≠ 4 + k → X2[j]? = X[j]?) (b : Nat) (hb1 : w.heap.size ≤ b) (hb2 : b < U.heap.size) : STo w X k q X' (W.setRow b X') := by
  obtain ⟨A, c, h1, h2, ⟨h3, h4, h5, h6⟩, h7, h8⟩ := h
  exact ⟨A, c, h1, h2, ⟨h3, h4, h5, ownsRow_cap h6, RdP.own (own_row h6 b hb2 X')⟩, fun j a1 a2 a3 => (h7 j a1 a2 a3).trans (hoff j a1 a2 a3), below_row (hb.trans (h8.mono hb.size)) hb1 X', .inr (fun ad e => Nat.le_trans hb.size (own_high h6 ad e))⟩
theorem STo.step {w w1 w2 : World} {X X' : Array Value} {k : Nat} {q : Way} (h : STo w X k q X' w1) (hb : Below w1.heap.size w1 w2) : STo w X k q X' w2 := by
  obtain ⟨A, c, h1, h2, h3, h4, h5, h6⟩ := h
  exact ⟨A, c, h1, h2, h3.step hb, h4, h5.trans (hb.mono h5.size), h6⟩
set_option maxHeartbeats 4000000 in
theorem refDo_send (k : Nat) (hk : k < 2) (i at_ : Int) (mask : Nat) (b : List UInt8) (X : Array Value) (q : Way) (A : Option Addr) (c : Nat) (w : World) (hX : X.size = 6) (h1 : ∀ v ∈ X.toList, v.oneCell' = true) (h : SAt w X k q A c) (hn : q.l.length ≤ 16) (hlo : q.lost ≤ 1000000) (hse : q.sent ≤ 1000000) :
    Calls Try.prog 9 #[.agg X, .agg (actC 0 k i at_ mask b)] w fun e w' => ∃ X', e = .returned (.tuple #[.agg X', .string ⟨#[]⟩, .bool true]) ∧ STo w X k (({ q with sent := q.sent + 1 } : Way).put ⟨b, false⟩) X' w' := by
  obtain ⟨r0, r1, r2, hW⟩ := rows3 w X (actC 0 k i at_ mask b) zero6 31 34 31
  have hk2 : (k : Int) < 2 := by omega
  have e1 := cell_of_row _ _ 1 _ _ _ r1
  have e5 := cell_of_row _ _ 5 _ _ _ r1
  have e0 := cell_of_row _ _ 0 _ _ _ r1
  have hse2 : (q.sent : Int) ≤ 1000000 := by omega
  have hS := h.step hW
  have HS := hide hS
  have HRD := hide h.rd
  have H1 := hide h1
  have HA := hide (And.intro hn hlo)
  have HK := hide hk
  have H6 := hide hX
  unfold zero6 actC at *
  clear h h1 hn hlo hse hS
  rcases two_ways hk with t0 | ⟨t0, t1⟩
  all_goals
    clear hk
    go_enter Try.func9, Try.ntmps9
    go_upto_region 5 with fail
    have r2 : (((w.alloc (.cells X 31)).alloc (.cells #[.int .i64 0, .int .i64 k, .int .i64 i, .int .i64 at_, .int .u32 mask, .string (ofL b)] 34)).alloc (.cells #[.slice none 0 0, .slice none 0 0, .int .i64 0, .int .i64 0, .int .i64 0, .int .i64 0] 31)).heap[w.heap.size + 1 + 1]? = _ := r2
    generalize (((w.alloc (.cells X 31)).alloc (.cells #[.int .i64 0, .int .i64 k, .int .i64 i, .int .i64 at_, .int .u32 mask, .string (ofL b)] 34)).alloc (.cells #[.slice none 0 0, .slice none 0 0, .int .i64 0, .int .i64 0, .int .i64 0, .int .i64 0] 31)) = V at r0 r1 r2 hW HS e0 e1 e5 ⊢
    clear e0 e1 e5
    have c2 : V.cell? ⟨w.heap.size, 2 + k, none⟩ = some (.int .i64 q.sent) := (cell_of_row _ _ _ _ _ _ r0).trans HS.out.sent
    have z2 : V.frozen? ⟨w.heap.size, 2 + k, none⟩ = false := frozen_of_row _ _ _ _ _ r0
    have r0b := heap_setCell_same V w.heap.size (2 + k) _ _ (.int .i64 ((q.sent : Int) + 1)) r0
    have r1b := (heap_setCell_other V ⟨w.heap.size, 2 + k, none⟩ _ (.int .i64 ((q.sent : Int) + 1)) (by simp)).trans r1
    have r2b : (V.setCell ⟨w.heap.size, 2 + k, none⟩ (.int .i64 ((q.sent : Int) + 1))).heap[w.heap.size + 1 + 1]? = _ := (heap_setCell_other V ⟨w.heap.size, 2 + k, none⟩ _ (.int .i64 ((q.sent : Int) + 1)) (by simp; omega)).trans r2
    go_upto_region 6 with fail
    clear c2 z2
    have hWb := hW.setCell (p := ⟨w.heap.size, 2 + k, none⟩) (Nat.le_refl _) (.int .i64 ((q.sent : Int) + 1))
    have hlt2 := (Array.getElem?_eq_some_iff.1 r2b).1
    clear r0 r1 r2 hW
    have hs6 : X.size = 6 := H6.out
    have hk3 : k < 2 := HK.out
    have hS2 : SAt (V.setCell ⟨w.heap.size, 2 + k, none⟩ (.int .i64 ((q.sent : Int) + 1))) (X.setIfInBounds (2 + k) (.int .i64 ((q.sent : Int) + 1))) k { q with sent := q.sent + 1 } A c :=
      ⟨by rw [get_ne (by omega)]; exact HS.out.row, by rw [get_eq (by omega)]; rfl, by rw [get_ne (by omega)]; exact HS.out.lost, HS.out.cap, (HRD.out.below hWb (Nat.le_refl _)).mono hWb.size⟩
    have hX2 : (X.setIfInBounds (2 + k) (.int .i64 ((q.sent : Int) + 1))).size = 6 := by rw [Array.size_setIfInBounds, hs6]
    have hone := one_set H1.out (2 + k) (.int .i64 ((q.sent : Int) + 1)) rfl
    have hcall : Calls Try.prog 19 #[.agg (X.setIfInBounds (2 + k) (.int .i64 ((q.sent : Int) + 1))), .int .i64 k, .agg #[.string (ofL b), .bool false]] (V.setCell ⟨w.heap.size, 2 + k, none⟩ (.int .i64 ((q.sent : Int) + 1))) _ := refPut_any k hk3 _ { q with sent := q.sent + 1 } ⟨b, false⟩ A c _ hX2 hone hS2 HA.out.1 HA.out.2
    have HC := hide hcall
    have HX2 := hide (st_size hX2)
    have e5 : (V.setCell ⟨w.heap.size, 2 + k, none⟩ (.int .i64 ((q.sent : Int) + 1))).cell? ⟨w.heap.size + 1, 5, none⟩ = some (.string (ofL b)) := cell_of_row _ _ _ _ _ _ r1b
    have HOFF := hide (fun (j : Nat) (_ : j ≠ k) (h2 : j ≠ 2 + k) (_ : j ≠ 4 + k) => (show (X.setIfInBounds (2 + k) (.int .i64 ((q.sent : Int) + 1)))[j]? = X[j]? from get_ne h2))
    clear hS2 hX2 hone hcall hs6 hX
    generalize X.setIfInBounds (2 + k) (.int .i64 ((q.sent : Int) + 1)) = X2 at r0b HC HX2 HOFF ⊢
    generalize V.setCell ⟨w.heap.size, 2 + k, none⟩ (.int .i64 ((q.sent : Int) + 1)) = U at r0b r1b r2b hWb HC e5 hlt2 ⊢
    go_wp2_with (refine wpList_load_row rfl 31 (.tmp 2) rfl w.heap.size rfl 31 X2 (0, 0) _ r0b Try.underlying31 rfl HX2.out ?_)
    refine HC.out.mono ?_
    rintro e W ⟨X', rfl, hP⟩
    have hB := hP.choose_spec.choose_spec.2.2.2.2
    have r2c := (hB.block _ hlt2).trans r2b
    have h6 := hP.choose_spec.choose_spec.1
    have HX3 := hide (st_size h6)
    have HA3 := hide (all_of hP.choose_spec.choose_spec.2.1)
    have H63 := hide h6
    have HL := hide (PTo.caller hWb hP HOFF.out (w.heap.size + 1 + 1) (by omega) hlt2)
    clear hB h6 hP e5 r0b r1b r2b
    go_wp2_with (refine wpList_store_row rfl 31 (.tmp 4) (.tmp 37) rfl (w.heap.size + 1 + 1) X' rfl rfl 31 _ r2c HX3.out (by rw [H63.out]; rfl) HA3.out ?_)
    exact bodyPost_ret (results_row3 rfl _ _ (w.heap.size + 1 + 1) 31 X' (0, 0) _ rfl (setRow_heap W _ _ X' _ _ r2c) Try.underlying31 rfl HX3.out) rfl ⟨X', rfl, HL.out⟩
end Go.Proofs.Ytfknfpngcnianaa
