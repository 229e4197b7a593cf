/-
  Texts that belong together: RuleEnds, Held, RuleRead.
-/
import Derived.Test.YteoafohebgfjdaaGreatDoorAutoRefStands
import Derived.Test.YteoafohebgfjdaaGreatDoorAutoRuleSpec
import Derived.Test.YteoafohebgfjdaaGreatDoorAutoPathName
import Derived.Test.YteoafohebgfjdaaGreatDoorAutoGlobMatchM
import Derived.Great.FillDense
/-
  A path's ends: the program's iterator tells them.
-/
namespace Go.Proofs.YteoafohebgfjdaaGreatDoor
open Go.RowKit
set_option maxRecDepth 100000

/-- A text, and what stands behind each of its slashes. -/
def endsL (s : List UInt8) : List (List UInt8) := (List.range (splitL s).length).map fun i => glueL ((splitL s).drop i)
theorem ends_none {s : List UInt8} (h : Lib.indexByte s 47 = -1) : endsL s = [s] := by
  unfold endsL
  rw [splitL_none s h]; rfl
theorem ends_some {s : List UInt8} {o : Nat} (h : Lib.indexByte s 47 = o) : endsL s = s :: endsL (s.drop (o + 1)) := by
  have hg := glue_split s
  unfold endsL
  rw [(splitL_some s o h).1] at hg ⊢
  rw [List.length_cons, List.range_succ_eq_map, List.map_cons, List.drop_zero, hg, List.map_map]
  rfl
theorem tails_ends {p : List UInt8} (h : namesL p ≠ []) : tailsL p = endsL p := by
  have e : namesL p = splitL p := by
    rw [names_cut] at h ⊢
    cases hr : rightL p with
    | false => rw [hr] at h; exact absurd rfl h
    | true =>
      rw [if_pos rfl]
      rw [hr, if_pos rfl] at h
      exact cut_ne p (fun e => by rw [e] at h; exact h rfl)
  unfold tailsL endsL
  rw [e]
/-- How far an end is from the last one. -/
def endM : Value → Value → Nat
  | .string t, .bool true => t.size + 1
  | _, _ => 0
/-- What is left to be told. -/
def EndI (T : List (List UInt8)) (pre : List ByteArray) (t : ByteArray) (m : Bool) : Prop := if m then pre.map toL ++ endsL (toL t) = T else pre.map toL = T

attribute [local go_sem] Oper.semAt_some
set_option maxHeartbeats 2000000 in
theorem ends_seq (n : Nat) (b : Nat) (p : ByteArray) (w : World) (hss : (p.size : Int) ≤ 1000000) (l1 : b < w.heap.size) (c1 : w.heap[b]? = some (.cells #[.string p] 9 (0, 0))) :
    SeqT Fence.wide n Tryz.prog 124 #[.pointer (some ⟨b, 0, none⟩)] (fun x : ByteArray => #[.string x]) []
      (fun xs => xs.map toL = endsL (toL p)) (fun pre => pre.map toL <+: endsL (toL p)) w := by
  intro l J Jx W hW hJ hJx hY h0
  obtain ⟨T, hT⟩ : ∃ T, T = endsL (toL p) := ⟨_, rfl⟩
  rw [← hT] at hY ⊢
  have HT := hide hT
  clear hT
  have hJ := hJ W.heap.size (Nat.le_refl _)
  have hY := fun pre x W1 => hY W.heap.size pre x W1 (Nat.le_refl _)
  have h0 := h0 W.heap.size (Nat.le_refl _)
  refine (CallsIn.mono ?_ (fun e W' (h : (∃ v, e = Ending.returned v) ∧ ((∃ xs : List ByteArray, xs.map toL = T ∧ J W.heap.size xs W') ∨ (∃ pre : List ByteArray, pre.map toL <+: T ∧ Jx W.heap.size pre W'))) => ⟨h.1, W.heap.size, Nat.le_refl _, h.2⟩))
  have k1 : W.heap[b]? = some (.cells #[.string p] 9 (0, 0)) := (hW.block _ l1).trans c1
  clear c1 hW l1 hJx
  have d1 : W.cell? ⟨b, 0, none⟩ = some (.string p) := cell_of_row _ _ _ _ _ _ k1
  refine callsIn_of_wp Tryz.func124 rfl trivial ?_ rfl
  simp only [Tryz.ntmps124, List.size_toArray, List.length_cons, List.length_nil, Nat.reduceAdd, Nat.reduceSub, Array.replicate_succ, Array.replicate_zero, List.push_toArray, List.append_toArray, List.nil_append, List.cons_append]
  gi_wp2
  gi_loopw [3, 4] (fun sv mv wr => ∃ (pre : List ByteArray) (t : ByteArray) (m : Bool), sv = .string t ∧ mv = .bool m ∧ Hid (EndI T pre t m) ∧ t.size ≤ p.size ∧ W.heap.size ≤ wr.heap.size ∧ J W.heap.size pre wr) (fun sv mv _ => endM sv mv)
  case atStart => exact ⟨[], p, true, rfl, rfl, HT.out.symm, Nat.le_refl _, Nat.le_refl _, h0⟩
  case round =>
    obtain ⟨pre, t, m, rfl, rfl, HP, hts, hsz, hj⟩ := hrel
    clear d1 k1
    cases m with
    | false =>
      have HE := hide (show pre.map toL = T from HP.out)
      gi_wp2_with fail
      go_end0
      exact ⟨⟨_, rfl⟩, .inl ⟨pre, HE.out, hj⟩⟩
    | true =>
      have hP : pre.map toL ++ endsL (toL t) = T := HP.out
      have ht64 : (t.size : Int) ≤ 9223372036854775800 := by omega
      have hhead : (pre ++ [t]).map toL <+: T := by
        rw [← hP, List.map_append]
        rcases index_cases (toL t) 47 with h | ⟨o, h⟩
        · rw [ends_none h]; exact List.prefix_refl _
        · rw [ends_some h]; exact ⟨endsL ((toL t).drop (o + 1)), by simp⟩
      obtain ⟨fn, tmps, assign, body, hy, hR⟩ := hY pre t wr hsz hj hhead
      have HR := hide hR
      have HH := hide hhead
      rcases index_cases t.data.toList 47 with hi | ⟨o, hi⟩
      · have HC := hide (fun W => cut_none t 47 hi W)
        have HE := hide (show (pre ++ [t]).map toL = T by rw [← hP, ends_none (s := toL t) hi, List.map_append]; rfl)
        clear hY hR hhead hP HP hi
        gi_wp2_with fail
        refine ⟨fun h => (by cases h), HR.out.mono ?_⟩
        rintro e W' (⟨rfl, hJ', hk⟩ | ⟨rfl, hJx', hk⟩)
        · gi_wp2_with fail
          refine ⟨trivial, fun h => (by cases h), (callsIn_wide.2 (HC.out _)).mono ?_⟩
          rintro e w2 ⟨rfl, q, rfl⟩
          have hg := grownBy_below (below_drewN (Below.refl _ W') q)
          have hj2 := hJ _ _ _ none hJ' hg (fun r e => by cases e)
          have hsz2 : W.heap.size ≤ (W'.drewN q).heap.size := Nat.le_trans (Nat.le_trans hsz hk.1) hg.size
          gi_wp2_with fail
          go_roundw
          case rel => exact ⟨pre ++ [t], ⟨#[]⟩, false, rfl, rfl, HE, Nat.zero_le _, hsz2, hj2⟩
          case measure => simp [endM]
        · gi_wp2_with fail
          refine bodyPost_ret (results_none rfl _ _ _) rfl ?_
          exact ⟨⟨_, rfl⟩, .inr ⟨pre ++ [t], HH.out, hJx'⟩⟩
      · have hol := index_lt hi
        have HC := hide (fun W => cut_some t 47 o hi W ht64)
        have HE := hide (show EndI T (pre ++ [t]) (t.extract (o + 1) t.size) true from by
          show (pre ++ [t]).map toL ++ endsL (toL (t.extract (o + 1) t.size)) = T
          rw [← hP, ends_some (s := toL t) hi, List.map_append, show toL (t.extract (o + 1) t.size) = (toL t).drop (o + 1) from by
            unfold toL
            rw [Lib.extract_data, List.take_of_length_le (by simp)]]
          simp)
        have hz2 : (t.extract (o + 1) t.size).size < t.size := by simp [ByteArray.size_extract]; omega
        have HZ := hide hz2
        clear hY hR hhead hP HP hi hol hz2
        gi_wp2_with fail
        refine ⟨fun h => (by cases h), HR.out.mono ?_⟩
        rintro e W' (⟨rfl, hJ', hk⟩ | ⟨rfl, hJx', hk⟩)
        · gi_wp2_with fail
          refine ⟨trivial, fun h => (by cases h), (callsIn_wide.2 (HC.out _)).mono ?_⟩
          rintro e w2 ⟨rfl, q, rfl⟩
          have hg := grownBy_below (below_drewN (Below.refl _ W') q)
          have hj2 := hJ _ _ _ none hJ' hg (fun r e => by cases e)
          have hsz2 : W.heap.size ≤ (W'.drewN q).heap.size := Nat.le_trans (Nat.le_trans hsz hk.1) hg.size
          gi_wp2_with fail
          go_roundw
          case rel => exact ⟨pre ++ [t], t.extract (o + 1) t.size, true, rfl, rfl, HE, by have := HZ.out; omega, hsz2, hj2⟩
          case measure => have := HZ.out; simp only [endM]; omega
        · gi_wp2_with fail
          refine bodyPost_ret (results_none rfl _ _ _) rfl ?_
          exact ⟨⟨_, rfl⟩, .inr ⟨pre ++ [t], HH.out, hJx'⟩⟩
end Go.Proofs.YteoafohebgfjdaaGreatDoor
/-
  What a rule's pattern says, as it lies in memory: two truth values, and a pattern of 321 cells.
-/
namespace Go.Proofs.YteoafohebgfjdaaGreatDoor
open Go.RowKit
set_option maxRecDepth 100000

def heldC (a b : Bool) (l : List GPart) (i : Nat) : Value := if i = 0 then .bool a else if i = 1 then .bool b else patC l (i - 2)
def heldV (a b : Bool) (l : List GPart) : Array Value := Array.ofFn (n := 323) fun i => heldC a b l i
theorem heldV_size (a b : Bool) (l : List GPart) : (heldV a b l).size = 323 := by simp [heldV]
theorem heldV_get (a b : Bool) (l : List GPart) (i : Nat) (h : i < 323) : (heldV a b l)[i]? = some (heldC a b l i) := by
  unfold heldV
  rw [Array.getElem?_ofFn, dif_pos h]
theorem zero_held (w : World) : Sem.run Tryz.prog (zeroValue 139) w = .ok (.agg (heldV false false [])) w := by kernel_rfl
theorem build_held0 (w : World) : Sem.run Tryz.prog (Instr.build 139 #[]) w = .ok (.agg (heldV false false [])) w := by kernel_rfl
theorem info_held : (Tryz.prog.info? 139).map (·.size) = some 323 := by kernel_rfl
theorem heldC_one (a b : Bool) (l : List GPart) (i : Nat) : (heldC a b l i).oneCell' = true := by
  unfold heldC
  split
  · rfl
  · split
    · rfl
    · exact patC_one _ _
theorem heldV_one (a b : Bool) (l : List GPart) : ∀ v ∈ (heldV a b l).toList, v.oneCell' = true := by
  intro v hv
  unfold heldV at hv
  rw [Array.mem_toList_iff, Array.mem_ofFn] at hv
  obtain ⟨i, rfl⟩ := hv
  exact heldC_one _ _ _ _
theorem store_held (a b a' b' : Bool) (l l' : List GPart) (g : Nat) (W : World) (h : W.heap[g]? = some (.cells (heldV a b l) 139 (0, 0))) :
    Sem.run Tryz.prog (storeCells ⟨g, 0, none⟩ (heldV a' b' l').toList) W = .ok () (W.setRow g (heldV a' b' l')) := by
  have e := run_storeCells_from (P := Tryz.prog) g 139 (heldV a' b' l').toList 0 (heldV a b l) W h (by simp [heldV_size]) (heldV_one a' b' l')
  simpa using e
theorem load_held (a b : Bool) (l : List GPart) (g : Nat) (W : World) (h : W.heap[g]? = some (.cells (heldV a b l) 139 (0, 0))) :
    Sem.run Tryz.prog (loadVar 139 ⟨g, 0, none⟩) W = .ok (.agg (heldV a b l)) W :=
  run_loadVar_row W g _ _ _ _ _ h Tryz.underlying139 rfl (by rw [info_held, heldV_size])

theorem one_size (v : Value) (h : v.cells = #[v]) : v.cells.size = 1 := by rw [h]; rfl
theorem fill_held (a b : Bool) (l : List GPart) : Instr.fill (fun i => (#[(0, 1), (1, 1), (2, 321)] : Array (Nat × Nat))[i]?) (heldV false false []) [(0, .bool a), (1, .bool b), (2, .agg (patV l))] = some (heldV a b l) := by
  have e0 : (Value.bool a).cells = #[.bool a] := rfl
  have e1 : (Value.bool b).cells = #[.bool b] := rfl
  have e2 : (Value.agg (patV l)).cells = patV l := rfl
  have s0 := heldV_size false false []
  unfold Instr.fill
  simp only [List.getElem?_toArray, List.getElem?_cons_zero, e0]
  rw [if_neg (by simp [s0])]
  unfold Instr.fill
  simp only [List.getElem?_cons_zero, List.getElem?_cons_succ, e1]
  rw [if_neg (by simp [s0])]
  unfold Instr.fill
  simp only [List.getElem?_cons_zero, List.getElem?_cons_succ, e2]
  rw [if_neg (by simp [s0, patV_size])]
  unfold Instr.fill
  refine congrArg some ?_
  obtain ⟨g1, g2⟩ := Go.Great.foldl_set 2 (patV l).toList 0 (((heldV false false []).setIfInBounds 0 (.bool a)).setIfInBounds 1 (.bool b))
  have hc : (Array.foldl (fun cs (x : Value × Nat) => cs.setIfInBounds (2 + x.2) x.1) (((heldV false false []).setIfInBounds 0 (.bool a)).setIfInBounds 1 (.bool b)) (patV l).zipIdx) = heldV a b l := by
    rw [← Array.foldl_toList, Array.toList_zipIdx]
    apply Array.ext_getElem?
    intro k
    rw [g2 k]
    have hs : (((heldV false false []).setIfInBounds 0 (.bool a)).setIfInBounds 1 (.bool b)).size = 323 := by simp [s0]
    have hp : (patV l).toList.length = 321 := by simp [patV_size]
    rw [hs, hp]
    by_cases hk : k < 323
    · rw [heldV_get _ _ _ _ hk]
      by_cases hk2 : 2 ≤ k
      · rw [if_pos ⟨by omega, by omega, hk⟩]
        have e : (patV l).toList[k - (2 + 0)]? = some (patC l (k - 2)) := by
          rw [Array.getElem?_toList]; exact patV_get l _ (by omega)
        rw [e]
        unfold heldC
        rw [if_neg (by omega), if_neg (by omega)]
      · rw [if_neg (by omega)]
        have hk3 : k = 0 ∨ k = 1 := by omega
        rcases hk3 with rfl | rfl
        · rw [Array.getElem?_setIfInBounds, if_neg (by omega), Array.getElem?_setIfInBounds, if_pos rfl, if_pos (by rw [s0]; omega)]
          rfl
        · rw [Array.getElem?_setIfInBounds, if_pos rfl, if_pos (by simp [s0])]
          rfl
    · rw [if_neg (by omega), Array.getElem?_eq_none (by rw [hs]; omega), Array.getElem?_eq_none (by rw [heldV_size]; omega)]
  exact hc
theorem build_held (a b : Bool) (l : List GPart) (w : World) : Sem.run Tryz.prog (Instr.build 139 #[(0, .bool a), (1, .bool b), (2, .agg (patV l))]) w = .ok (.agg (heldV a b l)) w := by
  unfold Instr.build
  rw [Sem.run_bind, zero_held]
  simp only [Result.andThen_ok]
  rw [Sem.run_bind, run_underlying Tryz.underlying139]
  simp only [Result.andThen_ok]
  rw [Sem.run_bind]
  refine (congrArg (fun r : Result (Array (Nat × Nat)) => r.andThen _) (show _ = Result.ok (#[(0, 1), (1, 1), (2, 321)] : Array (Nat × Nat)) w by kernel_rfl)).trans ?_
  simp only [Result.andThen_ok]
  have h := fill_held a b l
  rw [show (Value.agg (heldV false false [])).cells = heldV false false [] from rfl, h]
  rfl
end Go.Proofs.YteoafohebgfjdaaGreatDoor
/-
  The program's read: a rule's pattern, taken apart.
-/
namespace Go.Proofs.YteoafohebgfjdaaGreatDoor
open Go.RowKit
attribute [local go_sem] World.setCell_drewN' World.alloc_drewN'
set_option maxRecDepth 100000

theorem preB_head (s : ByteArray) : preB s ⟨#[47]⟩ = (cutH (toL s)).2 := by
  unfold preB cutH toL
  cases h : s.data.toList with
  | nil => rfl
  | cons c r =>
    simp only [List.head?_cons, Option.some.injEq]
    by_cases hc : c = 47
    · subst hc; simp [List.isPrefixOf]
    · rw [if_neg hc]
      simp [List.isPrefixOf]
      exact fun e => hc e.symm
theorem restP_head (s : ByteArray) : toL (restP s ⟨#[47]⟩) = (cutH (toL s)).1 := by
  have h := preB_head s
  unfold restP
  cases hp : preB s ⟨#[47]⟩ with
  | true =>
    rw [hp] at h
    unfold cutH at h ⊢
    split at h
    · rename_i hh
      rw [if_pos hh]
      simp only [if_true]
      unfold toL
      rw [show (ByteArray.mk #[47]).size = 1 from rfl, extract_end]
    · cases h
  | false =>
    rw [hp] at h
    unfold cutH at h ⊢
    split at h
    · cases h
    · rename_i hh
      rw [if_neg hh]; rfl
theorem sufB_tail (s : ByteArray) : sufB s 47 = (cutT (toL s)).2 := by
  unfold sufB cutT
  split
  · rename_i h; rw [h]; rfl
  · rename_i h
    rw [beq_eq_false_iff_ne]; exact h
theorem cutE_tail (s : ByteArray) : toL (cutE s 47) = (cutT (toL s)).1 := by
  have h := sufB_tail s
  unfold cutE
  cases hp : sufB s 47 with
  | true =>
    rw [hp] at h
    have hpos := sufB_pos hp
    unfold cutT at h ⊢
    split at h
    · rename_i hh
      rw [if_pos hh]
      simp only [if_true]
      unfold toL
      rw [Lib.extract_data, List.dropLast_eq_take]
      simp
    · cases h
  | false =>
    rw [hp] at h
    unfold cutT at h ⊢
    split at h
    · cases h
    · rename_i hh
      rw [if_neg hh]; rfl

theorem empty_iff' {t : ByteArray} : t.toList.isEmpty = true ↔ toL t = [] := by
  rw [Lib.toList_data]; unfold toL; exact List.isEmpty_iff
/-- What a pattern's text says. -/
def readH (p : List UInt8) : Array Value := if checkL p = 0 then heldV (wholeL p) (mustL p) (partsL p) else heldV false false []
theorem parts_few {p : List UInt8} {g : List GPart} (h : parseOf p = some g) (hp : p.length ≤ 64) : g.length ≤ 64 := by
  have := parseN_len _ _ _ h
  omega

theorem wpList_build_held {ops : Array Oper} {rest : List Oper} {op : Oper} {a : Act} {w : World} {Q : Exit → Act → World → Prop} (hgd : op.guard = none) (x y z : Operand) (ho : op.op = .build 139 #[(0, x), (1, y), (2, z)])
    (wh mu : Bool) (g : List GPart) (hx : a.eval x = .bool wh) (hy : a.eval y = .bool mu) (hz : a.eval z = .agg (patV g))
    (h : wpList Tryz.prog ops Q rest (a.put op.dst (.agg (heldV wh mu g))) w) : wpList Tryz.prog ops Q (op :: rest) a w :=
  wpList_plain hgd fun _ hK => by
    unfold Oper.wp execOp
    have e : (#[(0, x), (1, y), (2, z)] : Array (Nat × Operand)).map (fun (p : Nat × Operand) => (p.1, a.eval p.2)) = #[(0, Value.bool wh), (1, Value.bool mu), (2, Value.agg (patV g))] := by simp [hx, hy, hz]
    have hb := build_held wh mu g w
    rw [← e] at hb
    simp only [ho]
    rw [Sem.run_bind, hb]
    exact hK _ _ h

set_option maxHeartbeats 2000000 in
theorem read_any (s : ByteArray) (w : World) (hs : (s.size : Int) ≤ 1000000) :
    Calls Tryz.prog 109 #[.string s] w fun e w' => e = .returned (.tuple #[.agg (readH (toL s)), .int .i64 (checkL (toL s) : Nat)]) ∧ Below w.heap.size w w' := by
  obtain ⟨K, hK⟩ : ∃ K, K = checkL (toL s) := ⟨_, rfl⟩
  obtain ⟨R, hR⟩ : ∃ R, R = readH (toL s) := ⟨_, rfl⟩
  rw [← hK, ← hR]
  have hsz := size_toL s
  have HBad := hide (show K ≠ 0 → R = heldV false false [] from fun h => by rw [hR]; unfold readH; rw [if_neg (by rw [← hK]; exact h)])
  have HGood := hide (show K = 0 → R = heldV (wholeL (toL s)) (mustL (toL s)) (partsL (toL s)) from fun h => by rw [hR]; unfold readH; rw [if_pos (by rw [← hK]; exact h)])
  have hz := zero_held
  have hb := build_held0
  have hzp := zero_pat
  by_cases h64 : (64 : Int) < s.size
  · have HK := hide (show K = 5 by rw [hK]; exact checkL_long (by omega))
    have HR := hide (HBad.out (by rw [HK.out]; decide))
    have hst := store_held false false false false [] [] w.heap.size (w.alloc (Obj.cells (heldV false false []) 139)) (heap_alloc_new _ _)
    have hld := load_held false false [] w.heap.size ((w.alloc (Obj.cells (heldV false false []) 139)).setRow w.heap.size (heldV false false [])) (setRow_heap _ _ _ _ _ _ (heap_alloc_new _ _))
    clear hK hR hsz
    go_enter Tryz.func109, Tryz.ntmps109
    go_wp2_with fail
    refine bodyPost_ret (v := .tuple #[.agg (heldV false false []), .int .i64 5]) (by simp [results, Tryz.results109, asAddr, hld]) rfl ⟨by rw [HK.out, HR.out]; rfl, ?_⟩
    exact below_setRow ((Below.refl _ _).alloc (Nat.le_refl _) _) (Nat.le_refl _) _
  · obtain ⟨r, hr⟩ : ∃ r, r = restP s ⟨#[47]⟩ := ⟨_, rfl⟩
    obtain ⟨t, ht⟩ : ∃ t, t = cutE r 47 := ⟨_, rfl⟩
    obtain ⟨wh, hwh⟩ : ∃ wh, wh = wholeL (toL s) := ⟨_, rfl⟩
    obtain ⟨mu, hmu⟩ : ∃ mu, mu = mustL (toL s) := ⟨_, rfl⟩
    have e1 : toL r = (cutH (toL s)).1 := by rw [hr]; exact restP_head s
    have e2 : toL t = coreL (toL s) := by rw [ht, cutE_tail, e1]; rfl
    have hrs : (r.size : Int) ≤ 64 := by
      have h1 := cutH_len (toL s)
      rw [← e1, size_toL, size_toL] at h1
      omega
    have hts : t.size ≤ 64 := by
      have h1 := coreL_len (toL s)
      rw [← e2, size_toL, size_toL] at h1
      omega
    have HPre := hide (show ∀ W, Calls Tryz.prog 72 #[.string s, .string ⟨#[47]⟩] W fun e w' => e = .returned (.tuple #[.string r, .bool wh]) ∧ w' = W from fun W => by
      have h := cutPre_any s ⟨#[47]⟩ W
      rw [preB_head, ← hr] at h
      rw [hwh]; exact h)
    have HSuf := hide (show ∀ W, Calls Tryz.prog 114 #[.string r, .string ⟨#[47]⟩] W fun e w' => e = .returned (.tuple #[.string t, .bool mu]) ∧ w' = W from fun W => by
      have h := cutSuf_any r 47 W (by omega)
      rw [sufB_tail, ← ht, e1] at h
      rw [hmu]; exact h)
    have HE := hide (show t.toList.isEmpty = true → K = 3 from fun h => by rw [hK]; exact checkL_empty (by omega) (by rw [← e2]; exact empty_iff'.1 h))
    have HPN := hide (show parseOf (toL t) = none → K = 3 from fun h => by rw [hK]; exact checkL_none (by omega) (by rw [← e2]; exact h))
    have HPS := hide (show t.toList.isEmpty = false → ∀ g, parseOf (toL t) = some g → K = 0 ∧ partsL (toL s) = g from fun h g hg => by
      rw [hK]
      exact checkL_some (by omega) (fun h2 => by rw [← e2] at h2; rw [empty_iff'.2 h2] at h; cases h) (by rw [← e2]; exact hg))
    have HParse := hide (fun W => parse_any t W)
    have HWH := hide hwh
    have HMU := hide hmu
    have HT := hide hts
    clear hK hR hsz hr ht hwh hmu e1 e2 hrs hts
    go_enter Tryz.func109, Tryz.ntmps109
    go_wp2_with fail
    refine (HPre.out _).mono ?_
    rintro e w1 ⟨rfl, rfl⟩
    go_wp2_with fail
    refine (HSuf.out _).mono ?_
    rintro e w2 ⟨rfl, rfl⟩
    cases he : t.toList.isEmpty with
    | true =>
      have HK := hide (HE.out he)
      have HR := hide (HBad.out (by rw [HK.out]; decide))
      have hst := store_held false false false false [] [] w.heap.size (w.alloc (Obj.cells (heldV false false []) 139)) (heap_alloc_new _ _)
      have hld := load_held false false [] w.heap.size ((w.alloc (Obj.cells (heldV false false []) 139)).setRow w.heap.size (heldV false false [])) (setRow_heap _ _ _ _ _ _ (heap_alloc_new _ _))
      go_wp2_with fail
      refine bodyPost_ret (v := .tuple #[.agg (heldV false false []), .int .i64 3]) (by simp [results, Tryz.results109, asAddr, hld]) rfl ⟨by rw [HK.out, HR.out]; rfl, ?_⟩
      exact below_setRow ((Below.refl _ _).alloc (Nat.le_refl _) _) (Nat.le_refl _) _
    | false =>
      have HPS2 := hide (HPS.out he)
      have hlt : ¬ 64 < t.size := by have := HT.out; omega
      have HP := HParse.out
      unfold parseV at HP
      simp only [if_neg hlt] at HP
      cases hp : parseOf t.data.toList with
      | none =>
        have HK := hide (HPN.out hp)
        have HR := hide (HBad.out (by rw [HK.out]; decide))
        simp only [hp] at HP
        have HP2 := hide HP
        clear HP hp hlt
        go_wp2_with fail
        refine (HP2.out _).mono ?_
        rintro e w3 ⟨rfl, hb3⟩
        have hB3 : Below w.heap.size w w3 := ((Below.refl _ w).alloc (Nat.le_refl _) _).trans (hb3.mono (by simp))
        have r3 : w3.heap[w.heap.size]? = some (.cells (heldV false false []) 139 (0, 0)) := (hb3.block _ (by simp)).trans (heap_alloc_new _ _)
        have hlt3 : w.heap.size < w3.heap.size := (Array.getElem?_eq_some_iff.1 r3).1
        have hst := store_pat [] [] w3.heap.size (w3.alloc (Obj.cells (patV []) 137)) (heap_alloc_new _ _)
        have hps := patV_size []
        have r4 : ((w3.alloc (Obj.cells (patV []) 137)).setRow w3.heap.size (patV [])).heap[w.heap.size]? = some (.cells (heldV false false []) 139 (0, 0)) := (setRow_other _ _ _ _ (by omega)).trans ((Below.heap_alloc _ _ _ hlt3).trans r3)
        have hst2 := store_held false false false false [] [] w.heap.size _ r4
        have hld := load_held false false [] w.heap.size _ (setRow_heap _ _ _ (heldV false false []) _ _ r4)
        have HB4 := hide (below_setRow (hB3.alloc hB3.size (Obj.cells (patV []) 137)) hB3.size (patV []))
        clear r3 r4 hB3 hb3
        go_wp2_with fail
        refine bodyPost_ret (v := .tuple #[.agg (heldV false false []), .int .i64 3]) (by simp [results, Tryz.results109, asAddr, hld]) rfl ⟨by rw [HK.out, HR.out]; rfl, ?_⟩
        exact below_setRow HB4.out (Nat.le_refl _) _
      | some g =>
        obtain ⟨k0, k1⟩ := HPS2.out g hp
        have HK := hide k0
        have HR := hide (show R = heldV wh mu g by rw [HGood.out k0, ← HWH.out, ← HMU.out, k1])
        simp only [hp] at HP
        have HP2 := hide HP
        clear HP hp hlt k0 k1
        go_wp2_with fail
        refine (HP2.out _).mono ?_
        rintro e w3 ⟨rfl, hb3⟩
        have hB3 : Below w.heap.size w w3 := ((Below.refl _ w).alloc (Nat.le_refl _) _).trans (hb3.mono (by simp))
        have r3 : w3.heap[w.heap.size]? = some (.cells (heldV false false []) 139 (0, 0)) := (hb3.block _ (by simp)).trans (heap_alloc_new _ _)
        have hlt3 : w.heap.size < w3.heap.size := (Array.getElem?_eq_some_iff.1 r3).1
        have hst := store_pat [] g w3.heap.size (w3.alloc (Obj.cells (patV []) 137)) (heap_alloc_new _ _)
        have hps := patV_size g
        have hhs := heldV_size wh mu g
        have r4 : ((w3.alloc (Obj.cells (patV []) 137)).setRow w3.heap.size (patV g)).heap[w.heap.size]? = some (.cells (heldV false false []) 139 (0, 0)) := (setRow_other _ _ _ _ (by omega)).trans ((Below.heap_alloc _ _ _ hlt3).trans r3)
        have hld0 : ((w3.alloc (Obj.cells (patV []) 137)).setRow w3.heap.size (patV g)).heap[w3.heap.size]? = some (.cells (patV g) 137 (0, 0)) := setRow_heap _ _ _ _ _ _ (heap_alloc_new _ _)
        have hsz : (Tryz.prog.info? 137).map (·.size) = some (patV g).size := by rw [info_pat, patV_size]
        have hst2 := store_held false false wh mu [] g w.heap.size _ r4
        have hld := load_held wh mu g w.heap.size _ (setRow_heap _ _ _ (heldV wh mu g) _ _ r4)
        have hbd := build_held wh mu g
        have HB4 := hide (below_setRow (hB3.alloc hB3.size (Obj.cells (patV []) 137)) hB3.size (patV g))
        clear r3 r4 hB3 hb3
        go_wp2_with fail
        refine wp_load_row 137 (.tmp 7) rfl w3.heap.size rfl 137 _ (0, 0) _ hld0 Tryz.underlying137 rfl hsz ?_
        rename_i hK
        refine hK _ _ ?_
        clear hK hld0 hsz hst hbd hb hz hzp
        refine wpList_build_held rfl (.tmp 35) (.tmp 36) (.tmp 37) rfl wh mu g rfl rfl rfl ?_
        go_wp2_with fail
        refine bodyPost_ret (v := .tuple #[.agg (heldV wh mu g), .int .i64 0]) (by simp [results, Tryz.results109, asAddr, hld]) rfl ⟨by rw [HK.out, HR.out]; rfl, ?_⟩
        exact below_setRow HB4.out (Nat.le_refl _) _
end Go.Proofs.YteoafohebgfjdaaGreatDoor
