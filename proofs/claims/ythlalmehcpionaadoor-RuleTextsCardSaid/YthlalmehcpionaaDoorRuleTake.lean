/-
  Texts that belong together: RuleEnds, Held, RuleRead, RuleFits, RuleOf.
-/
import Derived.Test.YthlalmehcpionaaDoorSuf
import Derived.Test.YthlalmehcpionaaDoorRuleSpec
import Derived.Test.YthlalmehcpionaaDoorRange
import Derived.Test.YthlalmehcpionaaDoorGlobParse
import Derived.Great.FillDense
import Derived.Test.YthlalmehcpionaaDoorGlobMatchM
import Derived.Test.YthlalmehcpionaaDoorGlobAcc
import Derived.Test.YthlalmehcpionaaDoorPathB
/-
  A path's ends: the program's iterator tells them.
-/
namespace Go.Proofs.YthlalmehcpionaaDoor
open Go.RowKit
set_option maxRecDepth 100000

/-- A text, and what stands behind each of its slashes. -/
def endsL (s : List UInt8) : List (List UInt8) := (List.range (splitL s).length).map fun i => glueL ((splitL s).drop i)
theorem ends_none {s : List UInt8} (h : Lib.indexByte s 47 = -1) : endsL s = [s] := by
  unfold endsL
  rw [splitL_none s h]; rfl
theorem ends_some {s : List UInt8} {o : Nat} (h : Lib.indexByte s 47 = o) : endsL s = s :: endsL (s.drop (o + 1)) := by
  have hg := glue_split s
  unfold endsL
  rw [(splitL_some s o h).1] at hg ⊢
  rw [List.length_cons, List.range_succ_eq_map, List.map_cons, List.drop_zero, hg, List.map_map]
  rfl
theorem tails_ends {p : List UInt8} (h : namesL p ≠ []) : tailsL p = endsL p := by
  have e : namesL p = splitL p := by
    rw [names_cut] at h ⊢
    cases hr : rightL p with
    | false => rw [hr] at h; exact absurd rfl h
    | true =>
      rw [if_pos rfl]
      rw [hr, if_pos rfl] at h
      exact cut_ne p (fun e => by rw [e] at h; exact h rfl)
  unfold tailsL endsL
  rw [e]
/-- How far an end is from the last one. -/
def endM : Value → Value → Nat
  | .string t, .bool true => t.size + 1
  | _, _ => 0
/-- What is left to be told. -/
def EndI (T : List (List UInt8)) (pre : List ByteArray) (t : ByteArray) (m : Bool) : Prop := if m then pre.map toL ++ endsL (toL t) = T else pre.map toL = T

attribute [local go_sem] Oper.semAt_some
set_option maxHeartbeats 2000000 in
theorem ends_seq (n : Nat) (b : Nat) (p : ByteArray) (w : World) (hss : (p.size : Int) ≤ 1000000) (l1 : b < w.heap.size) (c1 : w.heap[b]? = some (.cells #[.string p] 9 (0, 0))) :
    SeqT Fence.wide n Tryd.prog 73 #[.pointer (some ⟨b, 0, none⟩)] (fun x : ByteArray => #[.string x]) []
      (fun xs => xs.map toL = endsL (toL p)) (fun pre => pre.map toL <+: endsL (toL p)) w := by
  intro l J Jx W hW hJ hJx hY h0
  obtain ⟨T, hT⟩ : ∃ T, T = endsL (toL p) := ⟨_, rfl⟩
  rw [← hT] at hY ⊢
  have HT := hide hT
  clear hT
  have hJ := hJ W.heap.size (Nat.le_refl _)
  have hY := fun pre x W1 => hY W.heap.size pre x W1 (Nat.le_refl _)
  have h0 := h0 W.heap.size (Nat.le_refl _)
  refine (CallsIn.mono ?_ (fun e W' (h : (∃ v, e = Ending.returned v) ∧ ((∃ xs : List ByteArray, xs.map toL = T ∧ J W.heap.size xs W') ∨ (∃ pre : List ByteArray, pre.map toL <+: T ∧ Jx W.heap.size pre W'))) => ⟨h.1, W.heap.size, Nat.le_refl _, h.2⟩))
  have k1 : W.heap[b]? = some (.cells #[.string p] 9 (0, 0)) := (hW.block _ l1).trans c1
  clear c1 hW l1 hJx
  have d1 : W.cell? ⟨b, 0, none⟩ = some (.string p) := cell_of_row _ _ _ _ _ _ k1
  refine callsIn_of_wp Tryd.func73 rfl trivial ?_ rfl
  simp only [Tryd.ntmps73, List.size_toArray, List.length_cons, List.length_nil, Nat.reduceAdd, Nat.reduceSub, Array.replicate_succ, Array.replicate_zero, List.push_toArray, List.append_toArray, List.nil_append, List.cons_append]
  gi_wp2
  gi_loopw [3, 4] (fun sv mv wr => ∃ (pre : List ByteArray) (t : ByteArray) (m : Bool), sv = .string t ∧ mv = .bool m ∧ Hid (EndI T pre t m) ∧ t.size ≤ p.size ∧ W.heap.size ≤ wr.heap.size ∧ J W.heap.size pre wr) (fun sv mv _ => endM sv mv)
  case atStart => exact ⟨[], p, true, rfl, rfl, HT.out.symm, Nat.le_refl _, Nat.le_refl _, h0⟩
  case round =>
    obtain ⟨pre, t, m, rfl, rfl, HP, hts, hsz, hj⟩ := hrel
    clear d1 k1
    cases m with
    | false =>
      have HE := hide (show pre.map toL = T from HP.out)
      gi_wp2_with fail
      go_end0
      exact ⟨⟨_, rfl⟩, .inl ⟨pre, HE.out, hj⟩⟩
    | true =>
      have hP : pre.map toL ++ endsL (toL t) = T := HP.out
      have ht64 : (t.size : Int) ≤ 9223372036854775800 := by omega
      have hhead : (pre ++ [t]).map toL <+: T := by
        rw [← hP, List.map_append]
        rcases index_cases (toL t) 47 with h | ⟨o, h⟩
        · rw [ends_none h]; exact List.prefix_refl _
        · rw [ends_some h]; exact ⟨endsL ((toL t).drop (o + 1)), by simp⟩
      obtain ⟨fn, tmps, assign, body, hy, hR⟩ := hY pre t wr hsz hj hhead
      have HR := hide hR
      have HH := hide hhead
      rcases index_cases t.data.toList 47 with hi | ⟨o, hi⟩
      · have HC := hide (fun W => cut_none t 47 hi W)
        have HE := hide (show (pre ++ [t]).map toL = T by rw [← hP, ends_none (s := toL t) hi, List.map_append]; rfl)
        clear hY hR hhead hP HP hi
        gi_wp2_with fail
        refine ⟨fun h => (by cases h), HR.out.mono ?_⟩
        rintro e W' (⟨rfl, hJ', hk⟩ | ⟨rfl, hJx', hk⟩)
        · gi_wp2_with fail
          refine ⟨trivial, fun h => (by cases h), (callsIn_wide.2 (HC.out _)).mono ?_⟩
          rintro e w2 ⟨rfl, q, rfl⟩
          have hg := grownBy_below (below_drewN (Below.refl _ W') q)
          have hj2 := hJ _ _ _ none hJ' hg (fun r e => by cases e)
          have hsz2 : W.heap.size ≤ (W'.drewN q).heap.size := Nat.le_trans (Nat.le_trans hsz hk.1) hg.size
          gi_wp2_with fail
          go_roundw
          case rel => exact ⟨pre ++ [t], ⟨#[]⟩, false, rfl, rfl, HE, Nat.zero_le _, hsz2, hj2⟩
          case measure => simp [endM]
        · gi_wp2_with fail
          refine bodyPost_ret (results_none rfl _ _ _) rfl ?_
          exact ⟨⟨_, rfl⟩, .inr ⟨pre ++ [t], HH.out, hJx'⟩⟩
      · have hol := index_lt hi
        have HC := hide (fun W => cut_some t 47 o hi W ht64)
        have HE := hide (show EndI T (pre ++ [t]) (t.extract (o + 1) t.size) true from by
          show (pre ++ [t]).map toL ++ endsL (toL (t.extract (o + 1) t.size)) = T
          rw [← hP, ends_some (s := toL t) hi, List.map_append, show toL (t.extract (o + 1) t.size) = (toL t).drop (o + 1) from by
            unfold toL
            rw [Lib.extract_data, List.take_of_length_le (by simp)]]
          simp)
        have hz2 : (t.extract (o + 1) t.size).size < t.size := by simp [ByteArray.size_extract]; omega
        have HZ := hide hz2
        clear hY hR hhead hP HP hi hol hz2
        gi_wp2_with fail
        refine ⟨fun h => (by cases h), HR.out.mono ?_⟩
        rintro e W' (⟨rfl, hJ', hk⟩ | ⟨rfl, hJx', hk⟩)
        · gi_wp2_with fail
          refine ⟨trivial, fun h => (by cases h), (callsIn_wide.2 (HC.out _)).mono ?_⟩
          rintro e w2 ⟨rfl, q, rfl⟩
          have hg := grownBy_below (below_drewN (Below.refl _ W') q)
          have hj2 := hJ _ _ _ none hJ' hg (fun r e => by cases e)
          have hsz2 : W.heap.size ≤ (W'.drewN q).heap.size := Nat.le_trans (Nat.le_trans hsz hk.1) hg.size
          gi_wp2_with fail
          go_roundw
          case rel => exact ⟨pre ++ [t], t.extract (o + 1) t.size, true, rfl, rfl, HE, by have := HZ.out; omega, hsz2, hj2⟩
          case measure => have := HZ.out; simp only [endM]; omega
        · gi_wp2_with fail
          refine bodyPost_ret (results_none rfl _ _ _) rfl ?_
          exact ⟨⟨_, rfl⟩, .inr ⟨pre ++ [t], HH.out, hJx'⟩⟩
end Go.Proofs.YthlalmehcpionaaDoor
/-
  What a rule's pattern says, as it lies in memory: two truth values, and a pattern of 321 cells.
-/
namespace Go.Proofs.YthlalmehcpionaaDoor
open Go.RowKit
set_option maxRecDepth 100000

def heldC (a b : Bool) (l : List GPart) (i : Nat) : Value := if i = 0 then .bool a else if i = 1 then .bool b else patC l (i - 2)
def heldV (a b : Bool) (l : List GPart) : Array Value := Array.ofFn (n := 323) fun i => heldC a b l i
theorem heldV_size (a b : Bool) (l : List GPart) : (heldV a b l).size = 323 := by simp [heldV]
theorem heldV_get (a b : Bool) (l : List GPart) (i : Nat) (h : i < 323) : (heldV a b l)[i]? = some (heldC a b l i) := by
  unfold heldV
  rw [Array.getElem?_ofFn, dif_pos h]
theorem zero_held (w : World) : Sem.run Tryd.prog (zeroValue 52) w = .ok (.agg (heldV false false [])) w := by kernel_rfl
theorem build_held0 (w : World) : Sem.run Tryd.prog (Instr.build 52 #[]) w = .ok (.agg (heldV false false [])) w := by kernel_rfl
theorem info_held : (Tryd.prog.info? 52).map (·.size) = some 323 := by kernel_rfl
theorem heldC_one (a b : Bool) (l : List GPart) (i : Nat) : (heldC a b l i).oneCell' = true := by
  unfold heldC
  split
  · rfl
  · split
    · rfl
    · exact patC_one _ _
theorem heldV_one (a b : Bool) (l : List GPart) : ∀ v ∈ (heldV a b l).toList, v.oneCell' = true := by
  intro v hv
  unfold heldV at hv
  rw [Array.mem_toList_iff, Array.mem_ofFn] at hv
  obtain ⟨i, rfl⟩ := hv
  exact heldC_one _ _ _ _
theorem store_held (a b a' b' : Bool) (l l' : List GPart) (g : Nat) (W : World) (h : W.heap[g]? = some (.cells (heldV a b l) 52 (0, 0))) :
    Sem.run Tryd.prog (storeCells ⟨g, 0, none⟩ (heldV a' b' l').toList) W = .ok () (W.setRow g (heldV a' b' l')) := by
  have e := run_storeCells_from (P := Tryd.prog) g 52 (heldV a' b' l').toList 0 (heldV a b l) W h (by simp [heldV_size]) (heldV_one a' b' l')
  simpa using e
theorem load_held (a b : Bool) (l : List GPart) (g : Nat) (W : World) (h : W.heap[g]? = some (.cells (heldV a b l) 52 (0, 0))) :
    Sem.run Tryd.prog (loadVar 52 ⟨g, 0, none⟩) W = .ok (.agg (heldV a b l)) W :=
  run_loadVar_row W g _ _ _ _ _ h Tryd.underlying52 rfl (by rw [info_held, heldV_size])

theorem one_size (v : Value) (h : v.cells = #[v]) : v.cells.size = 1 := by rw [h]; rfl
theorem fill_held (a b : Bool) (l : List GPart) : Instr.fill (fun i => (#[(0, 1), (1, 1), (2, 321)] : Array (Nat × Nat))[i]?) (heldV false false []) [(0, .bool a), (1, .bool b), (2, .agg (patV l))] = some (heldV a b l) := by
  have e0 : (Value.bool a).cells = #[.bool a] := rfl
  have e1 : (Value.bool b).cells = #[.bool b] := rfl
  have e2 : (Value.agg (patV l)).cells = patV l := rfl
  have s0 := heldV_size false false []
  unfold Instr.fill
  simp only [List.getElem?_toArray, List.getElem?_cons_zero, e0]
  rw [if_neg (by simp [s0])]
  unfold Instr.fill
  simp only [List.getElem?_cons_zero, List.getElem?_cons_succ, e1]
  rw [if_neg (by simp [s0])]
  unfold Instr.fill
  simp only [List.getElem?_cons_zero, List.getElem?_cons_succ, e2]
  rw [if_neg (by simp [s0, patV_size])]
  unfold Instr.fill
  refine congrArg some ?_
  obtain ⟨g1, g2⟩ := Go.Great.foldl_set 2 (patV l).toList 0 (((heldV false false []).setIfInBounds 0 (.bool a)).setIfInBounds 1 (.bool b))
  have hc : (Array.foldl (fun cs (x : Value × Nat) => cs.setIfInBounds (2 + x.2) x.1) (((heldV false false []).setIfInBounds 0 (.bool a)).setIfInBounds 1 (.bool b)) (patV l).zipIdx) = heldV a b l := by
    rw [← Array.foldl_toList, Array.toList_zipIdx]
    apply Array.ext_getElem?
    intro k
    rw [g2 k]
    have hs : (((heldV false false []).setIfInBounds 0 (.bool a)).setIfInBounds 1 (.bool b)).size = 323 := by simp [s0]
    have hp : (patV l).toList.length = 321 := by simp [patV_size]
    rw [hs, hp]
    by_cases hk : k < 323
    · rw [heldV_get _ _ _ _ hk]
      by_cases hk2 : 2 ≤ k
      · rw [if_pos ⟨by omega, by omega, hk⟩]
        have e : (patV l).toList[k - (2 + 0)]? = some (patC l (k - 2)) := by
          rw [Array.getElem?_toList]; exact patV_get l _ (by omega)
        rw [e]
        unfold heldC
        rw [if_neg (by omega), if_neg (by omega)]
      · rw [if_neg (by omega)]
        have hk3 : k = 0 ∨ k = 1 := by omega
        rcases hk3 with rfl | rfl
        · rw [Array.getElem?_setIfInBounds, if_neg (by omega), Array.getElem?_setIfInBounds, if_pos rfl, if_pos (by rw [s0]; omega)]
          rfl
        · rw [Array.getElem?_setIfInBounds, if_pos rfl, if_pos (by simp [s0])]
          rfl
    · rw [if_neg (by omega), Array.getElem?_eq_none (by rw [hs]; omega), Array.getElem?_eq_none (by rw [heldV_size]; omega)]
  exact hc
theorem build_held (a b : Bool) (l : List GPart) (w : World) : Sem.run Tryd.prog (Instr.build 52 #[(0, .bool a), (1, .bool b), (2, .agg (patV l))]) w = .ok (.agg (heldV a b l)) w := by
  unfold Instr.build
  rw [Sem.run_bind, zero_held]
  simp only [Result.andThen_ok]
  rw [Sem.run_bind, run_underlying Tryd.underlying52]
  simp only [Result.andThen_ok]
  rw [Sem.run_bind]
  refine (congrArg (fun r : Result (Array (Nat × Nat)) => r.andThen _) (show _ = Result.ok (#[(0, 1), (1, 1), (2, 321)] : Array (Nat × Nat)) w by kernel_rfl)).trans ?_
  simp only [Result.andThen_ok]
  have h := fill_held a b l
  rw [show (Value.agg (heldV false false [])).cells = heldV false false [] from rfl, h]
  rfl
end Go.Proofs.YthlalmehcpionaaDoor
/-
  The program's read: a rule's pattern, taken apart.
-/
namespace Go.Proofs.YthlalmehcpionaaDoor
open Go.RowKit
attribute [local go_sem] World.setCell_drewN' World.alloc_drewN'
set_option maxRecDepth 100000

theorem preB_head (s : ByteArray) : preB s ⟨#[47]⟩ = (cutH (toL s)).2 := by
  unfold preB cutH toL
  cases h : s.data.toList with
  | nil => rfl
  | cons c r =>
    simp only [List.head?_cons, Option.some.injEq]
    by_cases hc : c = 47
    · subst hc; simp [List.isPrefixOf]
    · rw [if_neg hc]
      simp [List.isPrefixOf]
      exact fun e => hc e.symm
theorem restP_head (s : ByteArray) : toL (restP s ⟨#[47]⟩) = (cutH (toL s)).1 := by
  have h := preB_head s
  unfold restP
  cases hp : preB s ⟨#[47]⟩ with
  | true =>
    rw [hp] at h
    unfold cutH at h ⊢
    split at h
    · rename_i hh
      rw [if_pos hh]
      simp only [if_true]
      unfold toL
      rw [show (ByteArray.mk #[47]).size = 1 from rfl, extract_end]
    · cases h
  | false =>
    rw [hp] at h
    unfold cutH at h ⊢
    split at h
    · cases h
    · rename_i hh
      rw [if_neg hh]; rfl
theorem sufB_tail (s : ByteArray) : sufB s 47 = (cutT (toL s)).2 := by
  unfold sufB cutT
  split
  · rename_i h; rw [h]; rfl
  · rename_i h
    rw [beq_eq_false_iff_ne]; exact h
theorem cutE_tail (s : ByteArray) : toL (cutE s 47) = (cutT (toL s)).1 := by
  have h := sufB_tail s
  unfold cutE
  cases hp : sufB s 47 with
  | true =>
    rw [hp] at h
    have hpos := sufB_pos hp
    unfold cutT at h ⊢
    split at h
    · rename_i hh
      rw [if_pos hh]
      simp only [if_true]
      unfold toL
      rw [Lib.extract_data, List.dropLast_eq_take]
      simp
    · cases h
  | false =>
    rw [hp] at h
    unfold cutT at h ⊢
    split at h
    · cases h
    · rename_i hh
      rw [if_neg hh]; rfl

theorem empty_iff' {t : ByteArray} : t.toList.isEmpty = true ↔ toL t = [] := by
  rw [Lib.toList_data]; unfold toL; exact List.isEmpty_iff
/-- What a pattern's text says. -/
def readH (p : List UInt8) : Array Value := if checkL p = 0 then heldV (wholeL p) (mustL p) (partsL p) else heldV false false []
theorem parts_few {p : List UInt8} {g : List GPart} (h : parseOf p = some g) (hp : p.length ≤ 64) : g.length ≤ 64 := by
  have := parseN_len _ _ _ h
  omega

theorem wpList_build_held {ops : Array Oper} {rest : List Oper} {op : Oper} {a : Act} {w : World} {Q : Exit → Act → World → Prop} (hgd : op.guard = none) (x y z : Operand) (ho : op.op = .build 52 #[(0, x), (1, y), (2, z)])
    (wh mu : Bool) (g : List GPart) (hx : a.eval x = .bool wh) (hy : a.eval y = .bool mu) (hz : a.eval z = .agg (patV g))
    (h : wpList Tryd.prog ops Q rest (a.put op.dst (.agg (heldV wh mu g))) w) : wpList Tryd.prog ops Q (op :: rest) a w :=
  wpList_plain hgd fun _ hK => by
    unfold Oper.wp execOp
    have e : (#[(0, x), (1, y), (2, z)] : Array (Nat × Operand)).map (fun (p : Nat × Operand) => (p.1, a.eval p.2)) = #[(0, Value.bool wh), (1, Value.bool mu), (2, Value.agg (patV g))] := by simp [hx, hy, hz]
    have hb := build_held wh mu g w
    rw [← e] at hb
    simp only [ho]
    rw [Sem.run_bind, hb]
    exact hK _ _ h

set_option maxHeartbeats 2000000 in
theorem read_any (s : ByteArray) (w : World) (hs : (s.size : Int) ≤ 1000000) :
    Calls Tryd.prog 25 #[.string s] w fun e w' => e = .returned (.tuple #[.agg (readH (toL s)), .int .i64 (checkL (toL s) : Nat)]) ∧ Below w.heap.size w w' := by
  obtain ⟨K, hK⟩ : ∃ K, K = checkL (toL s) := ⟨_, rfl⟩
  obtain ⟨R, hR⟩ : ∃ R, R = readH (toL s) := ⟨_, rfl⟩
  rw [← hK, ← hR]
  have hsz := size_toL s
  have HBad := hide (show K ≠ 0 → R = heldV false false [] from fun h => by rw [hR]; unfold readH; rw [if_neg (by rw [← hK]; exact h)])
  have HGood := hide (show K = 0 → R = heldV (wholeL (toL s)) (mustL (toL s)) (partsL (toL s)) from fun h => by rw [hR]; unfold readH; rw [if_pos (by rw [← hK]; exact h)])
  have hz := zero_held
  have hb := build_held0
  have hzp := zero_pat
  by_cases h64 : (64 : Int) < s.size
  · have HK := hide (show K = 5 by rw [hK]; exact checkL_long (by omega))
    have HR := hide (HBad.out (by rw [HK.out]; decide))
    have hst := store_held false false false false [] [] w.heap.size (w.alloc (Obj.cells (heldV false false []) 52)) (heap_alloc_new _ _)
    have hld := load_held false false [] w.heap.size ((w.alloc (Obj.cells (heldV false false []) 52)).setRow w.heap.size (heldV false false [])) (setRow_heap _ _ _ _ _ _ (heap_alloc_new _ _))
    clear hK hR hsz
    go_enter Tryd.func25, Tryd.ntmps25
    go_wp2_with fail
    refine bodyPost_ret (v := .tuple #[.agg (heldV false false []), .int .i64 5]) (by simp [results, Tryd.results25, asAddr, hld]) rfl ⟨by rw [HK.out, HR.out]; rfl, ?_⟩
    exact below_setRow ((Below.refl _ _).alloc (Nat.le_refl _) _) (Nat.le_refl _) _
  · obtain ⟨r, hr⟩ : ∃ r, r = restP s ⟨#[47]⟩ := ⟨_, rfl⟩
    obtain ⟨t, ht⟩ : ∃ t, t = cutE r 47 := ⟨_, rfl⟩
    obtain ⟨wh, hwh⟩ : ∃ wh, wh = wholeL (toL s) := ⟨_, rfl⟩
    obtain ⟨mu, hmu⟩ : ∃ mu, mu = mustL (toL s) := ⟨_, rfl⟩
    have e1 : toL r = (cutH (toL s)).1 := by rw [hr]; exact restP_head s
    have e2 : toL t = coreL (toL s) := by rw [ht, cutE_tail, e1]; rfl
    have hrs : (r.size : Int) ≤ 64 := by
      have h1 := cutH_len (toL s)
      rw [← e1, size_toL, size_toL] at h1
      omega
    have hts : t.size ≤ 64 := by
      have h1 := coreL_len (toL s)
      rw [← e2, size_toL, size_toL] at h1
      omega
    have HPre := hide (show ∀ W, Calls Tryd.prog 41 #[.string s, .string ⟨#[47]⟩] W fun e w' => e = .returned (.tuple #[.string r, .bool wh]) ∧ w' = W from fun W => by
      have h := cutPre_any s ⟨#[47]⟩ W
      rw [preB_head, ← hr] at h
      rw [hwh]; exact h)
    have HSuf := hide (show ∀ W, Calls Tryd.prog 42 #[.string r, .string ⟨#[47]⟩] W fun e w' => e = .returned (.tuple #[.string t, .bool mu]) ∧ w' = W from fun W => by
      have h := cutSuf_any r 47 W (by omega)
      rw [sufB_tail, ← ht, e1] at h
      rw [hmu]; exact h)
    have HE := hide (show t.toList.isEmpty = true → K = 3 from fun h => by rw [hK]; exact checkL_empty (by omega) (by rw [← e2]; exact empty_iff'.1 h))
    have HPN := hide (show parseOf (toL t) = none → K = 3 from fun h => by rw [hK]; exact checkL_none (by omega) (by rw [← e2]; exact h))
    have HPS := hide (show t.toList.isEmpty = false → ∀ g, parseOf (toL t) = some g → K = 0 ∧ partsL (toL s) = g from fun h g hg => by
      rw [hK]
      exact checkL_some (by omega) (fun h2 => by rw [← e2] at h2; rw [empty_iff'.2 h2] at h; cases h) (by rw [← e2]; exact hg))
    have HParse := hide (fun W => parse_any t W)
    have HWH := hide hwh
    have HMU := hide hmu
    have HT := hide hts
    clear hK hR hsz hr ht hwh hmu e1 e2 hrs hts
    go_enter Tryd.func25, Tryd.ntmps25
    go_wp2_with fail
    refine (HPre.out _).mono ?_
    rintro e w1 ⟨rfl, rfl⟩
    go_wp2_with fail
    refine (HSuf.out _).mono ?_
    rintro e w2 ⟨rfl, rfl⟩
    cases he : t.toList.isEmpty with
    | true =>
      have HK := hide (HE.out he)
      have HR := hide (HBad.out (by rw [HK.out]; decide))
      have hst := store_held false false false false [] [] w.heap.size (w.alloc (Obj.cells (heldV false false []) 52)) (heap_alloc_new _ _)
      have hld := load_held false false [] w.heap.size ((w.alloc (Obj.cells (heldV false false []) 52)).setRow w.heap.size (heldV false false [])) (setRow_heap _ _ _ _ _ _ (heap_alloc_new _ _))
      go_wp2_with fail
      refine bodyPost_ret (v := .tuple #[.agg (heldV false false []), .int .i64 3]) (by simp [results, Tryd.results25, asAddr, hld]) rfl ⟨by rw [HK.out, HR.out]; rfl, ?_⟩
      exact below_setRow ((Below.refl _ _).alloc (Nat.le_refl _) _) (Nat.le_refl _) _
    | false =>
      have HPS2 := hide (HPS.out he)
      have hlt : ¬ 64 < t.size := by have := HT.out; omega
      have HP := HParse.out
      unfold parseV at HP
      simp only [if_neg hlt] at HP
      cases hp : parseOf t.data.toList with
      | none =>
        have HK := hide (HPN.out hp)
        have HR := hide (HBad.out (by rw [HK.out]; decide))
        simp only [hp] at HP
        have HP2 := hide HP
        clear HP hp hlt
        go_wp2_with fail
        refine (HP2.out _).mono ?_
        rintro e w3 ⟨rfl, hb3⟩
        have hB3 : Below w.heap.size w w3 := ((Below.refl _ w).alloc (Nat.le_refl _) _).trans (hb3.mono (by simp))
        have r3 : w3.heap[w.heap.size]? = some (.cells (heldV false false []) 52 (0, 0)) := (hb3.block _ (by simp)).trans (heap_alloc_new _ _)
        have hlt3 : w.heap.size < w3.heap.size := (Array.getElem?_eq_some_iff.1 r3).1
        have hst := store_pat [] [] w3.heap.size (w3.alloc (Obj.cells (patV []) 50)) (heap_alloc_new _ _)
        have hps := patV_size []
        have r4 : ((w3.alloc (Obj.cells (patV []) 50)).setRow w3.heap.size (patV [])).heap[w.heap.size]? = some (.cells (heldV false false []) 52 (0, 0)) := (setRow_other _ _ _ _ (by omega)).trans ((Below.heap_alloc _ _ _ hlt3).trans r3)
        have hst2 := store_held false false false false [] [] w.heap.size _ r4
        have hld := load_held false false [] w.heap.size _ (setRow_heap _ _ _ (heldV false false []) _ _ r4)
        have HB4 := hide (below_setRow (hB3.alloc hB3.size (Obj.cells (patV []) 50)) hB3.size (patV []))
        clear r3 r4 hB3 hb3
        go_wp2_with fail
        refine bodyPost_ret (v := .tuple #[.agg (heldV false false []), .int .i64 3]) (by simp [results, Tryd.results25, asAddr, hld]) rfl ⟨by rw [HK.out, HR.out]; rfl, ?_⟩
        exact below_setRow HB4.out (Nat.le_refl _) _
      | some g =>
        obtain ⟨k0, k1⟩ := HPS2.out g hp
        have HK := hide k0
        have HR := hide (show R = heldV wh mu g by rw [HGood.out k0, ← HWH.out, ← HMU.out, k1])
        simp only [hp] at HP
        have HP2 := hide HP
        clear HP hp hlt k0 k1
        go_wp2_with fail
        refine (HP2.out _).mono ?_
        rintro e w3 ⟨rfl, hb3⟩
        have hB3 : Below w.heap.size w w3 := ((Below.refl _ w).alloc (Nat.le_refl _) _).trans (hb3.mono (by simp))
        have r3 : w3.heap[w.heap.size]? = some (.cells (heldV false false []) 52 (0, 0)) := (hb3.block _ (by simp)).trans (heap_alloc_new _ _)
        have hlt3 : w.heap.size < w3.heap.size := (Array.getElem?_eq_some_iff.1 r3).1
        have hst := store_pat [] g w3.heap.size (w3.alloc (Obj.cells (patV []) 50)) (heap_alloc_new _ _)
        have hps := patV_size g
        have hhs := heldV_size wh mu g
        have r4 : ((w3.alloc (Obj.cells (patV []) 50)).setRow w3.heap.size (patV g)).heap[w.heap.size]? = some (.cells (heldV false false []) 52 (0, 0)) := (setRow_other _ _ _ _ (by omega)).trans ((Below.heap_alloc _ _ _ hlt3).trans r3)
        have hld0 : ((w3.alloc (Obj.cells (patV []) 50)).setRow w3.heap.size (patV g)).heap[w3.heap.size]? = some (.cells (patV g) 50 (0, 0)) := setRow_heap _ _ _ _ _ _ (heap_alloc_new _ _)
        have hsz : (Tryd.prog.info? 50).map (·.size) = some (patV g).size := by rw [info_pat, patV_size]
        have hst2 := store_held false false wh mu [] g w.heap.size _ r4
        have hld := load_held wh mu g w.heap.size _ (setRow_heap _ _ _ (heldV wh mu g) _ _ r4)
        have hbd := build_held wh mu g
        have HB4 := hide (below_setRow (hB3.alloc hB3.size (Obj.cells (patV []) 50)) hB3.size (patV g))
        clear r3 r4 hB3 hb3
        go_wp2_with fail
        refine wp_load_row 50 (.tmp 7) rfl w3.heap.size rfl 50 _ (0, 0) _ hld0 Tryd.underlying50 rfl hsz ?_
        rename_i hK
        refine hK _ _ ?_
        clear hK hld0 hsz hst hbd hb hz hzp
        refine wpList_build_held rfl (.tmp 35) (.tmp 36) (.tmp 37) rfl wh mu g rfl rfl rfl ?_
        go_wp2_with fail
        refine bodyPost_ret (v := .tuple #[.agg (heldV wh mu g), .int .i64 0]) (by simp [results, Tryd.results25, asAddr, hld]) rfl ⟨by rw [HK.out, HR.out]; rfl, ?_⟩
        exact below_setRow HB4.out (Nat.le_refl _) _
end Go.Proofs.YthlalmehcpionaaDoor
/-
  Does a core match one of a path's ends?
-/
namespace Go.Proofs.YthlalmehcpionaaDoor
open Go.RowKit
set_option maxRecDepth 100000

theorem ends_mem : ∀ (n : Nat) (s : List UInt8), s.length ≤ n → ∀ x, x ∈ endsL s → x.length ≤ s.length := by
  intro n
  induction n with
  | zero =>
    intro s hs x hx
    have : s = [] := List.length_eq_zero_iff.1 (by omega)
    subst this
    rw [ends_none (by rfl)] at hx
    simp at hx
    subst hx
    exact Nat.le_refl _
  | succ n ih =>
    intro s hs x hx
    rcases index_cases s 47 with h | ⟨o, h⟩
    · rw [ends_none h] at hx
      simp at hx
      subst hx
      exact Nat.le_refl _
    · have hl := (splitL_some s o h).2
      rw [ends_some h, List.mem_cons] at hx
      rcases hx with rfl | hx
      · exact Nat.le_refl _
      · have h2 := ih (s.drop (o + 1)) (by rw [List.length_drop]; omega) x hx
        rw [List.length_drop] at h2
        omega
def fitsG (wh : Bool) (g : List GPart) (T : List (List UInt8)) : Bool := (if wh then T.take 1 else T).any (acc g)
theorem fitsG_yes {wh : Bool} {g : List GPart} {T pre : List (List UInt8)} {x : List UInt8} (hp : pre ++ [x] <+: T) (hw : wh = true → pre = []) (ha : acc g x = true) : fitsG wh g T = true := by
  obtain ⟨t, rfl⟩ := hp
  unfold fitsG
  cases wh with
  | true => rw [hw rfl]; simp [ha]
  | false => simp [ha]
theorem fitsG_no {g : List GPart} {T pre : List (List UInt8)} {x : List UInt8} (hp : pre ++ [x] <+: T) (hw : pre = []) (ha : acc g x = false) : fitsG true g T = false := by
  obtain ⟨t, rfl⟩ := hp
  unfold fitsG
  rw [hw]; simp [ha]
theorem fitsG_end {wh : Bool} {g : List GPart} {T : List (List UInt8)} (hn : T.any (acc g) = false) : fitsG wh g T = false := by
  unfold fitsG
  cases wh with
  | true =>
    rw [if_pos rfl, List.any_eq_false]
    intro x hx
    exact (List.any_eq_false.1 hn) x (List.mem_of_mem_take hx)
  | false => simpa using hn

theorem wpListIn_load_at {F : Fence} {n : Nat} {P : Program} {ops : Array Oper} {rest : List Oper} {op : Oper} {a : Act} {w : World} {Q : Exit → Act → World → Prop} (hgd : op.guard = none) (ty : TypeId) (x : Operand) (ho : op.op = .load ty x)
    (b o : Nat) (hx : a.eval x = .pointer (some ⟨b, o, none⟩)) (A : Array Value) (d : TypeDesc) (hc : w.rangeAt b o A.toList)
    (hu : P.underlying ty = some d) (hd : d.isRow = true) (hi : (P.info? ty).map (·.size) = some A.size)
    (h : wpListIn F n P ops Q rest (a.put op.dst (.agg A)) w) : wpListIn F n P ops Q (op :: rest) a w :=
  wpListIn_plain hgd fun K hK => by
    have e := run_loadVar_mid (P := P) w b o ty A.toList d hc hu hd (by simpa using hi)
    unfold Oper.wpIn
    refine ⟨fun f hf => ?_, ?_⟩
    · simp [Oper.about, ho] at hf
    · rw [Oper.semAt_eq _ _ _ (fun c => by rw [ho]; intro h; cases h)]
      unfold execOp
      simp only [ho, hx, Instr.loadAt, Instr.sureAddr, Sem.run_bind, Sem.run_pure, Result.andThen_ok, e]
      exact hK _ _ (by simpa using h)
theorem held_range {W : World} {b : Nat} {wh mu : Bool} {g : List GPart} (h : W.heap[b]? = some (.cells (heldV wh mu g) 52 (0, 0))) : W.rangeAt b 2 (patV g).toList := fun j v hv => by
  rw [Array.getElem?_toList] at hv
  have hj : j < 321 := by have := (Array.getElem?_eq_some_iff.1 hv).1; rw [patV_size] at this; exact this
  rw [patV_get _ _ hj] at hv
  rw [cell_of_row _ _ _ _ _ _ h, heldV_get _ _ _ _ (by omega), ← hv]
  unfold heldC
  rw [if_neg (by omega), if_neg (by omega)]
  congr 2
  omega

theorem ends_any (p : ByteArray) (w : World) :
    Calls Tryd.prog 59 #[.string p] w fun e w' => e = .returned (.func (.func 73) #[] #[.pointer (some ⟨w.heap.size, 0, none⟩)]) ∧ w' = w.alloc (.cells #[.string p] 9) := by
  go_enter Tryd.func59, Tryd.ntmps59
  go_wp2
  go_ret
  exact ⟨rfl, rfl⟩

attribute [local go_sem] Oper.semAt_some
set_option maxHeartbeats 4000000 in
theorem fits_in (bh : Nat) (wh mu : Bool) (g : List GPart) (p : ByteArray) (w : World) (hp : (p.size : Int) ≤ 1000000) (hg64 : g.length ≤ 64) (hb : bh < w.heap.size) (hr : w.heap[bh]? = some (.cells (heldV wh mu g) 52 (0, 0))) :
    CallsIn Fence.wide 5 Tryd.prog 46 #[.pointer (some ⟨bh, 0, none⟩), .string p] w fun e w' => e = .returned (.bool (fitsG wh g (endsL (toL p)))) ∧ Below w.heap.size w w' := by
  obtain ⟨V, hV⟩ : ∃ V, V = fitsG wh g (endsL (toL p)) := ⟨_, rfl⟩
  rw [← hV]
  have HV := hide hV
  clear hV
  refine callsIn_of_wp_marks Tryd.func46 rfl trivial ?_ rfl
  simp only [Tryd.ntmps46, List.size_toArray, List.length_cons, List.length_nil, Nat.reduceAdd, Nat.reduceSub, Array.replicate_succ, Array.replicate_zero, List.push_toArray, List.append_toArray, List.nil_append, List.cons_append]
  gi_wp2_with fail
  refine ⟨trivial, (callsIn_wide.2 (ends_any p _)).mono ?_⟩
  rintro e w1 ⟨rfl, hw1⟩
  have hz1 : w1.heap.size = w.heap.size + 3 := by rw [hw1]; simp
  have hB1 : Below w.heap.size w w1 := by rw [hw1]; exact (((Below.refl _ w).alloc (Nat.le_refl _) _).alloc (by simp) _).alloc (by simp; omega) _
  have r0 : w1.heap[w.heap.size]? = some (.cells #[.pointer (some ⟨bh, 0, none⟩)] 99 (0, 0)) := by
    rw [hw1]
    rw [Below.heap_alloc _ _ _ (by simp <;> omega), Below.heap_alloc _ _ _ (by simp <;> omega)]
    exact World.alloc_heap_new _ _
  have r1 : w1.heap[w.heap.size + 1]? = some (.cells #[.bool false] 4 (0, 0)) := by
    rw [hw1]
    rw [Below.heap_alloc _ _ _ (by simp <;> omega)]
    have h := World.alloc_heap_new (w.alloc (.cells #[.pointer (some ⟨bh, 0, none⟩)] 99)) (Obj.cells #[.bool false] 4)
    simp only [World.size_alloc] at h
    exact h
  have r2 : w1.heap[w.heap.size + 2]? = some (.cells #[.string p] 9 (0, 0)) := by
    rw [hw1]
    have h := World.alloc_heap_new ((w.alloc (.cells #[.pointer (some ⟨bh, 0, none⟩)] 99)).alloc (.cells #[.bool false] 4)) (Obj.cells #[.string p] 9)
    simp only [World.size_alloc] at h
    exact h
  clear hw1
  have e2 : ((w.alloc (Obj.cells #[Value.pointer (some ⟨bh, 0, none⟩)] 99)).alloc (Obj.cells #[Value.bool false] 4)).heap.size = w.heap.size + 2 := by simp
  rw [e2]
  gi_wp2_with fail
  refine wpIn_rangeT (α := ByteArray) rfl (by omega) (gf := 73) (lb := #[.pointer (some ⟨w.heap.size + 2, 0, none⟩)]) rfl trivial
    (enters_of Tryd.func73 (by kernel_rfl) rfl) (L := []) (by intro k hk; simp at hk)
    (ends_seq 4 (w.heap.size + 2) p w1 hp (by omega) r2) (fun _ => rfl)
    (fun X pre W => Hid ((pre.map toL).any (acc g) = false ∧ (wh = true → pre.map toL = [])) ∧ W.heap[w.heap.size]? = some (.cells #[.pointer (some ⟨bh, 0, none⟩)] 99 (0, 0)) ∧ W.heap[w.heap.size + 1]? = some (.cells #[.bool false] 4 (0, 0)) ∧ Below w.heap.size w W)
    (fun X c pre W => c = .ret ∧ W.heap[w.heap.size + 1]? = some (.cells #[.bool V] 4 (0, 0)) ∧ Below w.heap.size w W)
    ?hI ?hIx (fun X hX => ⟨⟨rfl, fun _ => rfl⟩, r0, r1, hB1⟩)
    (fun x => { tmps := #[.pointer (some ⟨bh, 0, none⟩), .string p, .pointer (some ⟨w.heap.size, 0, none⟩), undef, .pointer (some ⟨w.heap.size + 1, 0, none⟩), .string x, .string p,
      .func (.func 73) #[] #[.pointer (some ⟨w.heap.size + 2, 0, none⟩)], .string x, undef, undef, undef, undef, undef, undef, undef, undef, undef, undef], defers := [] }) ?assign ?body ?done ?stop
  case hI =>
    rintro X hX pre A B row ⟨h1, h2, h3, h4⟩ hg hr
    have ne : ∀ k, k < w.heap.size + 3 → ¬ row = some k := fun k hk e => by
      rcases hr k e with h | h
      · simp at h
      · omega
    exact ⟨h1, (hg.block _ (Array.getElem?_eq_some_iff.1 h2).1 (fun e => ne _ (by omega) e.symm)).trans h2, (hg.block _ (Array.getElem?_eq_some_iff.1 h3).1 (fun e => ne _ (by omega) e.symm)).trans h3, h4.grown hg h4.size (fun k e => Nat.le_of_not_lt (fun hk => ne k (by omega) e))⟩
  case hIx =>
    rintro X c hX pre A B row ⟨h1, h3, h4⟩ hg hr
    have ne : ∀ k, k < w.heap.size + 3 → ¬ row = some k := fun k hk e => by
      rcases hr k e with h | h
      · simp at h
      · omega
    exact ⟨h1, (hg.block _ (Array.getElem?_eq_some_iff.1 h3).1 (fun e => ne _ (by omega) e.symm)).trans h3, h4.grown hg h4.size (fun k e => Nat.le_of_not_lt (fun hk => ne k (by omega) e))⟩
  case assign =>
    intro l x W K hK
    gi_wp2
    exact hK
  case body =>
    rintro X l pre x W hX hXW ⟨h1, h2, h3, h4⟩ hlen
    rw [List.map_append] at hlen
    have hlx : (x.size : Int) ≤ 9223372036854775806 := by
      have hm : toL x ∈ endsL (toL p) := hlen.subset (by simp)
      have h := ends_mem _ _ (Nat.le_refl _) _ hm
      rw [size_toL, size_toL] at h
      omega
    have c2 : W.cell? ⟨w.heap.size, 0, none⟩ = some (.pointer (some ⟨bh, 0, none⟩)) := cell_of_row _ _ _ _ _ _ h2
    have rh := (h4.block _ hb).trans hr
    have hrg := held_range rh
    have hsz : (Tryd.prog.info? 50).map (·.size) = some (patV g).size := by rw [info_pat, patV_size]
    have HM := hide (fun W => matchM_any g x W hg64 hlx)
    obtain ⟨b, hbb⟩ : ∃ b, b = acc g (toL x) := ⟨_, rfl⟩
    rw [matchP_acc, show x.data.toList = toL x from rfl, ← hbb] at HM
    have HY := hide (show b = true → V = true from fun h => by rw [HV.out]; exact fitsG_yes hlen h1.out.2 (by rw [← hbb]; exact h))
    have HN := hide (show b = false → wh = true → V = false from fun h hw => by
      rw [HV.out]
      have h5 := fitsG_no (g := g) hlen (h1.out.2 hw) (by rw [← hbb]; exact h)
      rw [hw]; exact h5)
    have HC := hide (show b = false → wh = false → (((pre ++ [x]).map toL).any (acc g) = false ∧ (wh = true → (pre ++ [x]).map toL = [])) from fun h hw => by
      refine ⟨?_, fun h2 => by rw [hw] at h2; cases h2⟩
      rw [List.map_append, List.any_append, h1.out.1]
      simp [← hbb, h])
    have hxs : w1.heap.size ≤ W.heap.size := by have := hXW; omega
    clear hlen hlx h1 hbb
    gi_wp2_with (with_reducible refine wpListIn_load_at rfl 50 (.tmp 11) rfl bh 2 rfl (patV g) _ hrg Tryd.underlying50 rfl hsz ?_)
    refine ⟨trivial, (CallsIn.inRound l (callsIn_wide.2 (HM.out _))).mono ?_⟩
    rintro e w2 ⟨rfl, hb2⟩
    have hl2 := (Array.getElem?_eq_some_iff.1 h2).1
    have hl3 := (Array.getElem?_eq_some_iff.1 h3).1
    have g2 := (hb2.block _ hl2).trans h2
    have g3 := (hb2.block _ hl3).trans h3
    have gh := (hb2.block _ (Nat.lt_of_lt_of_le hb h4.size)).trans rh
    have d2 : w2.cell? ⟨w.heap.size, 0, none⟩ = some (.pointer (some ⟨bh, 0, none⟩)) := cell_of_row _ _ _ _ _ _ g2
    have d3 : w2.cell? ⟨w.heap.size + 1, 0, none⟩ = some (.bool false) := cell_of_row _ _ _ _ _ _ g3
    have z3 : w2.frozen? ⟨w.heap.size + 1, 0, none⟩ = false := frozen_of_row _ _ _ _ _ g3
    have dh : w2.cell? ⟨bh, 0, none⟩ = some (.bool wh) := by rw [cell_of_row _ _ _ _ _ _ gh, heldV_get _ _ _ _ (by omega)]; rfl
    have hB2 : Below w.heap.size w w2 := h4.trans (hb2.mono h4.size)
    have hK2 : Lies (Its [] w1.heap.size X) W w2 := ⟨hb2.size, fun k hk => hb2.block k (by
      rcases hk with hk | hk
      · simp at hk
      · omega)⟩
    have hK3 : ∀ v : Value, Lies (Its [] w1.heap.size X) W (w2.setCell ⟨w.heap.size + 1, 0, none⟩ v) := fun v => hK2.trans (.grown (grownBy_setCell _ _ _) (fun k hk => by
      have := hb2.size
      rcases hk with hk | hk
      · simp at hk
      · omega) (fun r e hk => by
      cases e
      rcases hk with hk | hk
      · simp at hk
      · simp at hk; omega))
    have hB3 : ∀ v : Value, Below w.heap.size w (w2.setCell ⟨w.heap.size + 1, 0, none⟩ v) := fun v => hB2.setCell (p := ⟨w.heap.size + 1, 0, none⟩) (by simp) _
    clear c2 hrg hsz hb2 rh gh h2 h3 h4 HM hX hXW hxs hl2 hl3 hz1 e2
    cases b with
    | true =>
      have HVt := hide (HY.out rfl)
      clear d2 dh HY HN HC
      gi_wp2_with fail
      refine ⟨hK3 _, rfl, ?_, hB3 _⟩
      rw [HVt.out]; exact heap_setCell_same _ _ _ _ _ _ g3
    | false =>
      cases wh with
      | true =>
        have HVt := hide (HN.out rfl rfl)
        clear HY HN HC
        gi_wp2_with fail
        refine ⟨hK3 _, rfl, ?_, hB3 _⟩
        rw [HVt.out]; exact heap_setCell_same _ _ _ _ _ _ g3
      | false =>
        have HC2 := hide (HC.out rfl rfl)
        clear HY HN HC
        gi_wp2_with fail
        exact ⟨hK2, HC2.out, g2, g3, hB2⟩
  case done =>
    rintro X D xs W hX hD hDX hS ⟨h1, h2, h3, h4⟩ hK
    have c3 : W.cell? ⟨w.heap.size + 1, 0, none⟩ = some (.bool false) := cell_of_row _ _ _ _ _ _ h3
    have z3 : W.frozen? ⟨w.heap.size + 1, 0, none⟩ = false := frozen_of_row _ _ _ _ _ h3
    have HVf := hide (show V = false by rw [HV.out]; exact fitsG_end (by rw [← hS]; exact h1.out.1))
    clear hS h1
    gi_wp2_with fail
    have hK' : (W.setCell ⟨w.heap.size + 1, 0, none⟩ (.bool false)).heap[D]? = some (.deferred (some [])) := (heap_setCell_other _ _ _ _ (by simp; omega)).trans hK
    refine ⟨by simp, .inl ⟨_, _, rfl, run_takeDeferred hK', ?_⟩⟩
    have hc5 : ((W.setCell ⟨w.heap.size + 1, 0, none⟩ (.bool false)).putObj D (.deferred none)).cell? ⟨w.heap.size + 1, 0, none⟩ = some (.bool false) :=
      cell_of_row _ _ _ _ _ _ ((World.putObj_heap_other (by omega)).trans (heap_setCell_same _ _ _ _ _ _ h3))
    refine ⟨.bool false, ?_, by rw [HVf.out], ?_⟩
    · simp [results, Tryd.f46, go_sem, hc5]
    · exact (h4.setCell (p := ⟨w.heap.size + 1, 0, none⟩) (by simp) _).grown (grownBy_putObj' _ D (.deferred none)) (by have := h4.size; simp [World.setCell]; omega) (fun r e => by cases e; omega)
  case stop =>
    rintro X D c pre W hX hD hDX hS ⟨rfl, h3, h4⟩ hK
    gi_wp2_with fail
    refine ⟨by simp, .inl ⟨_, _, rfl, run_takeDeferred hK, ?_⟩⟩
    have hc5 : (W.putObj D (.deferred none)).cell? ⟨w.heap.size + 1, 0, none⟩ = some (.bool V) :=
      cell_of_row _ _ _ _ _ _ ((World.putObj_heap_other (by omega)).trans h3)
    refine ⟨.bool V, ?_, rfl, ?_⟩
    · simp [results, Tryd.f46, go_sem, hc5]
    · exact h4.grown (grownBy_putObj' _ D (.deferred none)) h4.size (fun r e => by cases e; omega)
end Go.Proofs.YthlalmehcpionaaDoor
/-
  Does a rule match a path? Check, Matches.
-/
namespace Go.Proofs.YthlalmehcpionaaDoor
open Go.RowKit
set_option maxRecDepth 100000
attribute [local go_sem] World.setCell_drewN' World.alloc_drewN'

theorem fits_any (bh : Nat) (wh mu : Bool) (g : List GPart) (p : ByteArray) (w : World) (hp : (p.size : Int) ≤ 1000000) (hg64 : g.length ≤ 64) (hb : bh < w.heap.size) (hr : w.heap[bh]? = some (.cells (heldV wh mu g) 52 (0, 0))) :
    Calls Tryd.prog 46 #[.pointer (some ⟨bh, 0, none⟩), .string p] w fun e w' => e = .returned (.bool (fitsG wh g (endsL (toL p)))) ∧ Below w.heap.size w w' :=
  callsIn_wide.1 (fits_in bh wh mu g p w hp hg64 hb hr)
theorem fits_eq {pat p : List UInt8} (h : namesL p ≠ []) : fitsL pat p = fitsG (wholeL pat) (partsL pat) (endsL p) := by
  unfold fitsL fitsG
  rw [tails_ends h]
theorem names_none {p : List UInt8} (h : p = [] ∨ rightL p = false) : namesL p = [] := by
  unfold namesL
  rcases h with h | h
  · rw [h]; rfl
  · rw [h]; simp
theorem names_some {p : List UInt8} (h : p ≠ []) (hr : rightL p = true) : namesL p ≠ [] := by
  unfold namesL
  rw [hr]
  have : p.isEmpty = false := by cases p with | nil => exact absurd rfl h | cons a t => rfl
  rw [this]
  exact splitL_ne p

set_option maxHeartbeats 4000000 in
theorem of_any (kp dir : Bool) (pat p : ByteArray) (w : World) (hs : (pat.size : Int) ≤ 1000000) (hp : (p.size : Int) ≤ 1000000) :
    Calls Tryd.prog 28 #[.agg #[.string p, .bool dir], .agg #[.bool kp, .string pat]] w fun e w' => e = .returned (.bool (matchesL (toL pat) (toL p) dir)) ∧ Below w.heap.size w w' := by
  obtain ⟨V, hV⟩ : ∃ V, V = matchesL (toL pat) (toL p) dir := ⟨_, rfl⟩
  rw [← hV]
  obtain ⟨K, hK⟩ : ∃ K, K = checkL (toL pat) := ⟨_, rfl⟩
  obtain ⟨wh, hwh⟩ : ∃ wh, wh = wholeL (toL pat) := ⟨_, rfl⟩
  obtain ⟨mu, hmu⟩ : ∃ mu, mu = mustL (toL pat) := ⟨_, rfl⟩
  obtain ⟨g, hg⟩ : ∃ g, g = partsL (toL pat) := ⟨_, rfl⟩
  have HBad := hide (show K ≠ 0 → V = false from fun h => by rw [hV]; exact matchesL_bad (by rw [← hK]; exact h))
  have HNo := hide (show namesL (toL p) = [] → V = false from fun h => by rw [hV]; exact matchesL_no h)
  have HDir := hide (show mu = true → dir = false → V = false from fun h h2 => by rw [hV]; exact matchesL_dir (by rw [← hmu]; exact h) h2)
  have HFits := hide (show K = 0 → namesL (toL p) ≠ [] → (mu = false ∨ dir = true) → V = fitsG wh g (endsL (toL p)) from fun h h2 h3 => by
    rw [hV, matchesL_fits (by rw [← hK]; exact h) h2 (by rw [← hmu]; exact h3), fits_eq h2, hwh, hg])
  have HOk := hide (show K = 0 → g.length ≤ 64 from fun h => by
    obtain ⟨h1, _, h3⟩ := checkL_ok (hK.symm.trans h)
    have h4 := parts_few h3 (by have := coreL_len (toL pat); omega)
    rw [hg]; exact h4)
  have HRead := hide (show ∀ W, Calls Tryd.prog 25 #[.string pat] W fun e w' => e = .returned (.tuple #[.agg (if K = 0 then heldV wh mu g else heldV false false []), .int .i64 (K : Nat)]) ∧ Below W.heap.size W w' from fun W => by
    have h := read_any pat W hs
    unfold readH at h
    rw [← hK, ← hwh, ← hmu, ← hg] at h
    exact h)
  have HRight := hide (fun W => right_any p W (by omega))
  have hz := zero_held
  clear hV hK hwh hmu hg
  cases he : p.toList.isEmpty with
  | true =>
    have HF := hide (HNo.out (names_none (.inl (empty_iff'.1 he))))
    go_enter Tryd.func28, Tryd.ntmps28
    go_wp2_with fail
    refine bodyPost_ret (results_tmp rfl _ _ _) rfl ⟨by rw [HF.out]; rfl, ?_⟩
    exact ((Below.refl _ _).alloc (Nat.le_refl _) _).alloc (by simp) _
  | false =>
    have HNE := hide (show toL p ≠ [] from fun h => by rw [empty_iff'.2 h] at he; cases he)
    obtain ⟨rb, hrb⟩ : ∃ rb, rb = rightL (toL p) := ⟨_, rfl⟩
    have HR0 := hide (show rb = false → V = false from fun h => HNo.out (names_none (.inr (by rw [← hrb]; exact h))))
    have HR1 := hide (show rb = true → namesL (toL p) ≠ [] from fun h => names_some HNE.out (by rw [← hrb]; exact h))
    have HRight2 := hide (show ∀ W, Calls Tryd.prog 45 #[.string p] W fun e w' => e = .returned (.bool rb) ∧ Below W.heap.size W w' from fun W => by rw [hrb]; exact HRight.out W)
    clear HRight hrb
    go_enter Tryd.func28, Tryd.ntmps28
    cases rb with
    | false =>
      have HF := hide (HR0.out rfl)
      go_wp2_with (go_at_call 45; refine (HRight2.out _).mono ?_; rintro e w1 ⟨rfl, hb1⟩)
      refine bodyPost_ret (results_tmp rfl _ _ _) rfl ⟨by rw [HF.out]; rfl, ?_⟩
      exact (((Below.refl _ w).alloc (Nat.le_refl _) _).alloc (by simp) _).trans (hb1.mono (by simp; omega))
    | true =>
      have HN := hide (HR1.out rfl)
      clear HR0 HR1
      go_wp2_with fail
      refine (HRight2.out _).mono ?_
      rintro e w1 ⟨rfl, hb1⟩
      have hB1 : Below w.heap.size w w1 := (((Below.refl _ w).alloc (Nat.le_refl _) _).alloc (by simp) _).trans (hb1.mono (by simp; omega))
      have a0 : w1.heap[w.heap.size]? = some (.cells #[.string p, .bool dir] 61 (0, 0)) := (hb1.block _ (by simp; omega)).trans (heap_alloc2_old _ _ _)
      have a1 : w1.heap[w.heap.size + 1]? = some (.cells #[.bool kp, .string pat] 28 (0, 0)) := (hb1.block _ (by simp)).trans (heap_alloc2_new _ _ _)
      have c1 : w1.cell? ⟨w.heap.size + 1, 1, none⟩ = some (.string pat) := cell_of_row _ _ _ _ _ _ a1
      clear hb1 a1
      go_wp2_with fail
      refine (HRead.out _).mono ?_
      rintro e w3 ⟨rfl, hb3⟩
      have hB3 := hB1.trans (hb3.mono hB1.size)
      have a3 := (hb3.block _ (Array.getElem?_eq_some_iff.1 a0).1).trans a0
      have hl3 := (Array.getElem?_eq_some_iff.1 a3).1
      clear hb3 a0 c1 hB1
      by_cases hK0 : K = 0
      · subst hK0
        rw [if_pos rfl]
        have hst := store_held false false wh mu [] g w3.heap.size (w3.alloc (Obj.cells (heldV false false []) 52)) (heap_alloc_new _ _)
        have hhs := heldV_size wh mu g
        obtain ⟨w4, hw4⟩ : ∃ w4, w4 = (w3.alloc (Obj.cells (heldV false false []) 52)).setRow w3.heap.size (heldV wh mu g) := ⟨_, rfl⟩
        rw [← hw4] at hst
        have rh : w4.heap[w3.heap.size]? = some (.cells (heldV wh mu g) 52 (0, 0)) := by rw [hw4]; exact setRow_heap _ _ _ _ _ _ (heap_alloc_new _ _)
        have a4 : w4.heap[w.heap.size]? = some (.cells #[.string p, .bool dir] 61 (0, 0)) := by rw [hw4]; exact (setRow_other _ _ _ _ (by omega)).trans ((Below.heap_alloc _ _ _ hl3).trans a3)
        have hB4 : Below w.heap.size w w4 := by rw [hw4]; exact below_setRow (hB3.alloc hB3.size _) hB3.size _
        have c0 : w4.cell? ⟨w.heap.size, 0, none⟩ = some (.string p) := cell_of_row _ _ _ _ _ _ a4
        have c1 : w4.cell? ⟨w.heap.size, 1, none⟩ = some (.bool dir) := cell_of_row _ _ _ _ _ _ a4
        have d1 : w4.cell? ⟨w3.heap.size, 1, none⟩ = some (.bool mu) := by rw [cell_of_row _ _ _ _ _ _ rh, heldV_get _ _ _ _ (by omega)]; rfl
        have hmd : (mu = true ∧ dir = false) ∨ mu = false ∨ (mu = true ∧ dir = true) := by cases mu <;> cases dir <;> simp
        have HG := hide (HOk.out rfl)
        have HLT := hide (Array.getElem?_eq_some_iff.1 rh).1
        clear hw4 a3 hB3 hl3 a4
        rcases hmd with ⟨rfl, rfl⟩ | hmd
        · have HF := hide (HDir.out rfl rfl)
          go_wp2_with fail
          exact bodyPost_ret (results_tmp rfl _ _ _) rfl ⟨by rw [HF.out]; rfl, hB4⟩
        · have HV := hide (HFits.out rfl HN.out (hmd.elim .inl fun h => .inr h.2))
          have HFit := hide (fits_any w3.heap.size wh mu g p w4 hp HG.out HLT.out rh)
          rw [← HV.out] at HFit
          clear rh
          rcases hmd with rfl | ⟨rfl, rfl⟩
          all_goals
            go_wp2_with fail
            refine (HFit.out).mono ?_
            rintro e w5 ⟨rfl, hb5⟩
            go_wp2_with fail
            exact bodyPost_ret (results_tmp rfl _ _ _) rfl ⟨rfl, hB4.trans (hb5.mono hB4.size)⟩
      · have HF := hide (HBad.out hK0)
        rw [if_neg hK0]
        have hst := store_held false false false false [] [] w3.heap.size (w3.alloc (Obj.cells (heldV false false []) 52)) (heap_alloc_new _ _)
        have hhs := heldV_size false false []
        have HB4 := hide (below_setRow (hB3.alloc hB3.size (Obj.cells (heldV false false []) 52)) hB3.size (heldV false false []))
        have hk1 : ((K : Int) == 0) = false := by rw [beq_eq_false_iff_ne]; omega
        have hk2 : ((K : Int) != 0) = true := by rw [bne, hk1]; rfl
        clear hK0 a3 hB3
        go_wp2_with fail
        exact bodyPost_ret (results_tmp rfl _ _ _) rfl ⟨by rw [HF.out]; rfl, HB4.out⟩
end Go.Proofs.YthlalmehcpionaaDoor
