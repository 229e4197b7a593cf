/-
  Texts that belong together: RuleList, RuleOne, RuleLines, RuleParse.
-/
import Derived.Test.YthlalmehcpionaaDoorRuleTake
import Derived.Test.YthlalmehcpionaaDoorRefList
import Derived.Deep.RegionHeld
import Derived.Test.YthlalmehcpionaaDoorPathSplit
import Derived.Test.YthlalmehcpionaaDoorPathRight
import Derived.Deep.RegionLaw
import Derived.Test.YthlalmehcpionaaDoorBytes
import Derived.OwnWalkIn
import Derived.RangeFuncBox
/-
  The program's Check, CheckAll, Matches, Keeps, over rules that lie at an address.
-/
namespace Go.Proofs.YthlalmehcpionaaDoor
open Go.RowKit
set_option maxRecDepth 100000

set_option maxHeartbeats 1000000 in
theorem matches_any (kp dir : Bool) (pat p : ByteArray) (w : World) (hs : (pat.size : Int) ≤ 1000000) (hp : (p.size : Int) ≤ 1000000) :
    Calls Tryd.prog 11 #[.agg #[.bool kp, .string pat], .string p, .bool dir] w fun e w' => e = .returned (.bool (matchesL (toL pat) (toL p) dir)) ∧ Below w.heap.size w w' := by
  have HO := hide (fun W => of_any kp dir pat p W hs hp)
  go_enter Tryd.func11, Tryd.ntmps11
  go_wp2_with fail
  refine (HO.out _).mono ?_
  rintro e w1 ⟨rfl, hb1⟩
  go_wp2_with fail
  exact bodyPost_ret (results_tmp rfl _ _ _) rfl ⟨rfl, ((Below.refl _ w).alloc (Nat.le_refl _) _).trans (hb1.mono (by simp))⟩

set_option maxHeartbeats 2000000 in
theorem check_any (kp : Bool) (pat : ByteArray) (w : World) (hs : (pat.size : Int) ≤ 1000000) :
    Calls Tryd.prog 9 #[.agg #[.bool kp, .string pat]] w fun e w' => e = .returned (.int .i64 (checkL (toL pat) : Nat)) ∧ Below w.heap.size w w' := by
  obtain ⟨K, hK⟩ : ∃ K, K = checkL (toL pat) := ⟨_, rfl⟩
  obtain ⟨a, b, g, hR⟩ : ∃ a b g, readH (toL pat) = heldV a b g := by
    unfold readH
    split
    · exact ⟨_, _, _, rfl⟩
    · exact ⟨_, _, _, rfl⟩
  have HRead := hide (fun W => read_any pat W hs)
  rw [← hK, hR] at HRead
  rw [← hK]
  have hz := zero_held
  clear hK hR
  go_enter Tryd.func9, Tryd.ntmps9
  go_wp2_with fail
  refine (HRead.out _).mono ?_
  rintro e w3 ⟨rfl, hb3⟩
  have hB3 : Below w.heap.size w w3 := ((Below.refl _ w).alloc (Nat.le_refl _) _).trans (hb3.mono (by simp))
  have hst := store_held false false a b [] g w3.heap.size (w3.alloc (Obj.cells (heldV false false []) 52)) (heap_alloc_new _ _)
  have hhs := heldV_size a b g
  have HB4 := hide (below_setRow (hB3.alloc hB3.size (Obj.cells (heldV false false []) 52)) hB3.size (heldV a b g))
  clear hb3 hB3
  go_wp2_with fail
  exact bodyPost_ret (results_tmp rfl _ _ _) rfl ⟨rfl, HB4.out⟩

set_option maxHeartbeats 4000000 in
theorem checkAll_any (A : Option Addr) (l : List (Bool × ByteArray)) (c : Nat) (w : World) (hA : RdR w w.heap.size A l) (hf : Few l) (hl : (l.length : Int) ≤ 1000000) :
    Calls Tryd.prog 13 #[.slice A l.length c] w fun e w' => e = .returned (.int .i64 (checkAllL (rulesL l) : Nat)) ∧ Below w.heap.size w w' := by
  obtain ⟨V, hV⟩ : ∃ V, V = checkAllL (rulesL l) := ⟨_, rfl⟩
  rw [← hV]
  have hlen : (rulesL l).length = l.length := by simp [rulesL]
  by_cases h16 : (16 : Int) < l.length
  · have HV := hide (show V = 5 by rw [hV]; unfold checkAllL; rw [if_pos (by omega)])
    clear hV hlen
    go_enter Tryd.func13, Tryd.ntmps13
    go_wp2_with fail
    exact bodyPost_ret (results_tmp rfl _ _ _) rfl ⟨by rw [HV.out]; rfl, Below.refl _ _⟩
  · have HV := hide (show V = firstBad (rulesL l) by rw [hV]; unfold checkAllL; rw [if_neg (by omega)])
    have HF := hide hf
    clear hV hlen hf
    go_enter Tryd.func13, Tryd.ntmps13
    go_wp2_with fail
    go_loopg [11] l.length (fun gk iv wr => ∃ i : Nat, iv = .int .i64 i ∧ i + gk = l.length ∧ Hid (firstBad (rulesL (l.drop i)) = V) ∧ Below w.heap.size w wr ∧ RdR wr wr.heap.size A l)
    case atStart => exact ⟨0, rfl, by omega, hide (by rw [HV.out]; rfl), Below.refl _ _, hA⟩
    case round =>
      obtain ⟨i, rfl, hig, HB, hB, hR⟩ := hrel
      clear hA
      cases gk with
      | zero =>
        obtain rfl : i = l.length := by omega
        have HE := hide (show V = 0 by rw [← HB.out, List.drop_length]; rfl)
        clear HB
        go_wp2_with fail
        exact bodyPost_ret (results_tmp rfl _ _ _) rfl ⟨by rw [HE.out]; rfl, hB⟩
      | succ g0 =>
        have hii : (i : Int) < l.length := by omega
        obtain ⟨r, hr⟩ : ∃ r, l[i]? = some r := ⟨_, List.getElem?_eq_getElem (by omega)⟩
        obtain ⟨ad, rfl, hlt, c0, c1⟩ := hR i r hr
        obtain ⟨K, hK⟩ : ∃ K, K = checkL (toL r.2) := ⟨_, rfl⟩
        have hd := HB.out
        rw [rules_drop l i r hr] at hd
        unfold firstBad at hd
        simp only at hd
        rw [← hK] at hd
        have HCheck := hide (show ∀ W, Calls Tryd.prog 9 #[.agg #[.bool r.1, .string r.2]] W fun e w' => e = .returned (.int .i64 (K : Nat)) ∧ Below W.heap.size W w' from fun W => by rw [hK]; exact check_any r.1 r.2 W (HF.out i r hr))
        clear hK HB hr
        by_cases hK0 : K = 0
        · subst hK0
          rw [if_pos rfl] at hd
          have HD := hide hd
          have hiw : IntKind.i64.wrap ((i : Int) + 1) = ((i + 1 : Nat) : Int) := by rw [IntWalk.i64_in _ (by omega)]; rfl
          clear hd
          go_wp2_with (go_at_call 9; refine (HCheck.out _).mono ?_; rintro e w3 ⟨rfl, hb3⟩)
          go_roundg g0
          case rel => exact ⟨i + 1, rfl, by omega, HD, (hB.alloc hB.size _).trans (hb3.mono (by have := hB.size; simp; omega)), (hR.step ((Below.refl _ wr).alloc (Nat.le_refl _) _)).step hb3⟩
          case measure => omega
        · rw [if_neg hK0] at hd
          have HD := hide hd
          have hk1 : ((K : Int) == 0) = false := by rw [beq_eq_false_iff_ne]; omega
          have hk2 : ((K : Int) != 0) = true := by rw [bne, hk1]; rfl
          clear hd hK0
          go_wp2_with (go_at_call 9; refine (HCheck.out _).mono ?_; rintro e w3 ⟨rfl, hb3⟩)
          exact bodyPost_ret (results_tmp rfl _ _ _) rfl ⟨by rw [← HD.out]; rfl, (hB.alloc hB.size _).trans (hb3.mono (by have := hB.size; simp; omega))⟩

def IdxTo (l : List (Bool × ByteArray)) (V : Bool) (w : World) (e : Ending) (w' : World) : Prop :=
  ∃ r : Int, e = .returned (.int .i64 r) ∧ Below w.heap.size w w' ∧ ((r = -1 ∧ V = true) ∨ ∃ (k : Nat) (q : Bool × ByteArray), r = k ∧ l[k]? = some q ∧ V = q.1)
set_option maxHeartbeats 4000000 in
theorem index_func (A : Option Addr) (l : List (Bool × ByteArray)) (c : Nat) (p : ByteArray) (dir : Bool) (w : World) (hA : RdR w w.heap.size A l) (hf : Few l) (hl : (l.length : Int) ≤ 1000000) (hp : (p.size : Int) ≤ 1000000) :
    Calls Tryd.prog 32 #[.slice A l.length c, .func (.func 28) #[.agg #[.string p, .bool dir]] #[]] w (IdxTo l (keepsL (toL p) dir (rulesL l)) w) := by
  obtain ⟨V, hV⟩ : ∃ V, V = keepsL (toL p) dir (rulesL l) := ⟨_, rfl⟩
  rw [← hV]
  have HV := hide hV
  have HF := hide hf
  clear hV hf
  go_enter Tryd.func32, Tryd.ntmps32
  go_wp2_with fail
  go_loopg [8] l.length (fun gk iv wr => ∃ i : Nat, iv = .int .i64 i ∧ i + gk = l.length ∧ Hid (keepsL (toL p) dir (rulesL (l.drop i)) = V) ∧ Below w.heap.size w wr ∧ RdR wr wr.heap.size A l)
  case atStart => exact ⟨0, rfl, by omega, hide (by rw [HV.out]; rfl), Below.refl _ _, hA⟩
  case round =>
    obtain ⟨i, rfl, hig, HB, hB, hR⟩ := hrel
    clear hA
    cases gk with
    | zero =>
      obtain rfl : i = l.length := by omega
      have HE := hide (show V = true by rw [← HB.out, List.drop_length]; rfl)
      clear HB
      go_wp2_with fail
      exact bodyPost_ret (results_tmp rfl _ _ _) rfl ⟨-1, rfl, hB, .inl ⟨rfl, HE.out⟩⟩
    | succ g0 =>
      have hii : (i : Int) < l.length := by omega
      obtain ⟨r, hr⟩ : ∃ r, l[i]? = some r := ⟨_, List.getElem?_eq_getElem (by omega)⟩
      obtain ⟨ad, rfl, hlt, c0, c1⟩ := hR i r hr
      obtain ⟨K, hK⟩ : ∃ K, K = matchesL (toL r.2) (toL p) dir := ⟨_, rfl⟩
      have hd := HB.out
      rw [rules_drop l i r hr] at hd
      unfold keepsL at hd
      simp only at hd
      rw [← hK] at hd
      have HM := hide (show ∀ W, Calls Tryd.prog 28 #[.agg #[.string p, .bool dir], .agg #[.bool r.1, .string r.2]] W fun e w' => e = .returned (.bool K) ∧ Below W.heap.size W w' from fun W => by rw [hK]; exact of_any r.1 dir r.2 p W (HF.out i r hr) hp)
      have HR := hide hr
      clear hK HB hr
      cases K with
      | false =>
        rw [if_neg (by decide)] at hd
        have HD := hide hd
        have hiw : IntKind.i64.wrap ((i : Int) + 1) = ((i + 1 : Nat) : Int) := by rw [IntWalk.i64_in _ (by omega)]; rfl
        clear hd
        go_wp2_with (go_at_call 28; refine (HM.out _).mono ?_; rintro e w3 ⟨rfl, hb3⟩)
        go_roundg g0
        case rel => exact ⟨i + 1, rfl, by omega, HD, hB.trans (hb3.mono hB.size), hR.step hb3⟩
        case measure => omega
      | true =>
        rw [if_pos rfl] at hd
        have HD := hide hd
        clear hd
        go_wp2_with (go_at_call 28; refine (HM.out _).mono ?_; rintro e w3 ⟨rfl, hb3⟩)
        exact bodyPost_ret (results_tmp rfl _ _ _) rfl ⟨i, rfl, hB.trans (hb3.mono hB.size), .inr ⟨i, r, rfl, HR.out, HD.out.symm⟩⟩

set_option maxHeartbeats 4000000 in
theorem keeps_any (A : Option Addr) (l : List (Bool × ByteArray)) (c : Nat) (p : ByteArray) (dir : Bool) (w : World) (hA : RdR w w.heap.size A l) (hf : Few l) (hl : (l.length : Int) ≤ 1000000) (hp : (p.size : Int) ≤ 1000000) :
    Calls Tryd.prog 15 #[.slice A l.length c, .string p, .bool dir] w fun e w' => e = .returned (.bool (keepsL (toL p) dir (rulesL l))) ∧ Below w.heap.size w w' := by
  obtain ⟨V, hV⟩ : ∃ V, V = keepsL (toL p) dir (rulesL l) := ⟨_, rfl⟩
  have HI := hide (index_func A l c p dir w hA hf hl hp)
  rw [← hV] at HI ⊢
  clear hV hf
  go_enter Tryd.func15, Tryd.ntmps15
  go_wp2_with fail
  refine (HI.out).mono ?_
  rintro e w1 ⟨r, rfl, hb1, ⟨rfl, hv⟩ | ⟨k, q, rfl, hq, hv⟩⟩
  · have HV := hide hv
    clear hv
    go_wp2_with fail
    exact bodyPost_ret (results_tmp rfl _ _ _) rfl ⟨by rw [HV.out]; rfl, hb1⟩
  · have HV := hide hv
    have hkl : (k : Int) < l.length := by have := (List.getElem?_eq_some_iff.1 hq).1; omega
    have hk0 : (0 : Int) ≤ k := by omega
    obtain ⟨ad, rfl, hlt, c0, _⟩ := (hA.step hb1) k q hq
    clear hv hq hA
    go_wp2_with fail
    exact bodyPost_ret (results_tmp rfl _ _ _) rfl ⟨by rw [HV.out]; rfl, hb1⟩
end Go.Proofs.YthlalmehcpionaaDoor
/-
  One line of a text of rules: what it says, and what the program's one answers.
-/
namespace Go.Proofs.YthlalmehcpionaaDoor
open Go.RowKit
set_option maxRecDepth 100000

/-- What is wrong with a line, and the rule that it is. -/
def oneE (x : List UInt8) : Nat := if x.getLast? = some 10 ∧ 3 ≤ x.length ∧ (x[0]? = some 43 ∨ x[0]? = some 45) ∧ x[1]? = some 32 then checkL (x.dropLast.drop 2) else 3
def oneR (x : List UInt8) : Bool × List UInt8 := (x[0]? == some 43, x.dropLast.drop 2)
theorem oneE_bad {x : List UInt8} (h : ¬ (x.getLast? = some 10 ∧ 3 ≤ x.length ∧ (x[0]? = some 43 ∨ x[0]? = some 45) ∧ x[1]? = some 32)) : oneE x = 3 := by unfold oneE; rw [if_neg h]
theorem oneE_ok {x : List UInt8} (h : x.getLast? = some 10 ∧ 3 ≤ x.length ∧ (x[0]? = some 43 ∨ x[0]? = some 45) ∧ x[1]? = some 32) : oneE x = checkL (x.dropLast.drop 2) := by unfold oneE; rw [if_pos h]
theorem cutE_len {s : ByteArray} {c : UInt8} (h : sufB s c = true) : toL (cutE s c) = (toL s).dropLast := by
  unfold cutE
  rw [h, if_pos rfl]
  unfold toL
  rw [Lib.extract_data, List.dropLast_eq_take]
  simp
theorem at_toL (t : ByteArray) (k : Nat) (h : k < t.size) : (toL t)[k]? = some t[k] := by
  have h' : k < (toL t).length := by rw [size_toL]; exact h
  rw [List.getElem?_eq_getElem h']; rfl
theorem drop_get {x : List UInt8} {k : Nat} (h : k + 1 < x.length) : x.dropLast[k]? = x[k]? := by
  rw [List.dropLast_eq_take, List.getElem?_take, if_pos (by omega)]

theorem two_cells (w : World) (h : Nat) (a b v0 v1 : Value) (T : TypeId) (s : w.heap[h]? = some (.cells #[a, b] T (0, 0))) :
    (w.setCell ⟨h, 0, none⟩ v0).cell? ⟨h, 0, none⟩ = some v0 ∧ ((w.setCell ⟨h, 0, none⟩ v0).setCell ⟨h, 1, none⟩ v1).cell? ⟨h, 1, none⟩ = some v1 := by
  have h1 := heap_setCell_same w h 0 _ _ v0 s
  have h2 := heap_setCell_same _ h 1 _ _ v1 h1
  exact ⟨cell_of_row _ _ _ _ _ _ h1, cell_of_row _ _ _ _ _ _ h2⟩
/-- What one answers. -/
def OneTo (line : ByteArray) (w : World) (e : Ending) (w' : World) : Prop :=
  ∃ (kp : Bool) (pat : ByteArray), e = .returned (.tuple #[.agg #[.bool kp, .string pat], .int .i64 (oneE (toL line) : Nat)]) ∧ (oneE (toL line) = 0 → (kp, toL pat) = oneR (toL line) ∧ pat.size ≤ line.size) ∧ Below w.heap.size w w'
set_option maxHeartbeats 4000000 in
theorem one_any (line : ByteArray) (w : World) (hs : (line.size : Int) ≤ 1000000) : Calls Tryd.prog 40 #[.string line] w (OneTo line w) := by
  obtain ⟨E, hE⟩ : ∃ E, E = oneE (toL line) := ⟨_, rfl⟩
  have HPost := hide (show ∀ (kp : Bool) (pat : ByteArray) e w', e = .returned (.tuple #[.agg #[.bool kp, .string pat], .int .i64 (E : Nat)]) → (E = 0 → (kp, toL pat) = oneR (toL line) ∧ pat.size ≤ line.size) → Below w.heap.size w w' → OneTo line w e w' from fun kp pat e w' h1 h2 h3 => ⟨kp, pat, by rw [← hE]; exact h1, by rw [← hE]; exact h2, h3⟩)
  obtain ⟨t, ht⟩ : ∃ t, t = cutE line 10 := ⟨_, rfl⟩
  obtain ⟨B, hB⟩ : ∃ B, B = sufB line 10 := ⟨_, rfl⟩
  have HCut := hide (fun W => cutSuf_any line 10 W (by omega))
  rw [← ht, ← hB] at HCut
  have hlast : B = true ↔ (toL line).getLast? = some 10 := by rw [hB]; unfold sufB; simp
  have htl : B = true → toL t = (toL line).dropLast := fun h => by rw [ht]; exact cutE_len (hB ▸ h)
  have hsl := size_toL line
  have hst := size_toL t
  clear ht hB
  by_cases hB1 : B = true ∧ 2 ≤ t.size
  · obtain ⟨rfl, h2⟩ := hB1
    have hl := hlast.1 rfl
    have hd := htl rfl
    have hlen : line.size = t.size + 1 := by
      have h := congrArg List.length hd
      rw [List.length_dropLast, hst, hsl] at h
      omega
    have p0 : 0 < t.size := Nat.lt_of_lt_of_le (by decide) h2
    have p1 : 1 < t.size := Nat.lt_of_lt_of_le (by decide) h2
    obtain ⟨x0, hx0⟩ : ∃ x, t[0]'p0 = x := ⟨_, rfl⟩
    obtain ⟨x1, hx1⟩ : ∃ x, t[1]'p1 = x := ⟨_, rfl⟩
    have e0 : (toL line)[0]? = some x0 := by rw [← drop_get (by omega), ← hd, at_toL t 0 (by omega), hx0]
    have e1 : (toL line)[1]? = some x1 := by rw [← drop_get (by omega), ← hd, at_toL t 1 (by omega), hx1]
    have h2i : ¬ (t.size : Int) < 2 := by omega
    have h2j : (0 : Int) < t.size := by omega
    have h2k : (1 : Int) < t.size := by omega
    have h2l : (2 : Int) ≤ t.size := by omega
    have HX0 := hide hx0
    have HX1 := hide hx1
    by_cases hok : (x0 = 43 ∨ x0 = 45) ∧ x1 = 32
    · obtain ⟨ha, hb⟩ := hok
      have HE := hide (show E = checkL (toL (t.extract 2 t.size)) by
        rw [hE, oneE_ok ⟨hl, by omega, by rw [e0]; simpa using ha, by rw [e1, hb]⟩, ← hd]
        unfold toL
        rw [extract_end])
      have HR := hide (show ∀ b : Bool, b = (x0 == 43) → (b, toL (t.extract 2 t.size)) = oneR (toL line) from fun b hb => by
        unfold oneR
        rw [e0, ← hd, hb]
        unfold toL
        rw [extract_end]
        simp)
      have HL := hide hlen
      have HZ := hide (show (t.extract 2 t.size).size ≤ line.size by rw [ByteArray.size_extract]; omega)
      have b1 : ((x1.toNat : Int) == 32) = true := by rw [hb]; rfl
      have b2 : ((x1.toNat : Int) != 32) = false := by rw [hb]; rfl
      obtain ⟨c, hc⟩ : ∃ c, c = ((x0.toNat : Int) == 43) := ⟨_, rfl⟩
      have hcx : c = (x0 == 43) := by
        rw [hc]
        rcases ha with rfl | rfl <;> rfl
      have HB := hide (HR.out c hcx)
      have hc2 : ((x0.toNat : Int) != 43) = !c := by rw [hc]; rfl
      have hc4 : ((x0.toNat : Int) == 43) = c := hc.symm
      have hc3 : c = false → ((x0.toNat : Int) != 45) = false := by
        intro h
        rcases ha with rfl | rfl
        · rw [hcx] at h; cases h
        · rfl
      have HCheck := hide (fun (kp : Bool) W => check_any kp (t.extract 2 t.size) W (by have := HZ.out; omega))
      rw [← HE.out] at HCheck
      clear hE hlast htl hl hd hlen e0 e1 ha hb hsl hst hcx HR HE hc
      go_enter Tryd.func40, Tryd.ntmps40
      go_wp2_with fail
      refine (HCut.out _).mono ?_
      rintro e w1 ⟨rfl, rfl⟩
      cases c with
      | true =>
        go_wp2_with fail
        refine wp_region_noPanic ?_
        go_region_held (fun _ => True) (trivial) (fail)
        all_goals
          refine NoPanic.normal ?_
          rename_i hH
          clear hH
          generalize hW : ((w.alloc (Obj.cells #[Value.bool false, Value.string ⟨#[]⟩] 28)).alloc (Obj.cells #[Value.bool true, Value.string (t.extract 2 t.size)] 28)).drew = W2
          have r0 : W2.heap[w.heap.size]? = some (.cells #[.bool false, .string ⟨#[]⟩] 28 (0, 0)) := by rw [← hW]; exact heap_alloc2_old _ _ _
          have r1 : W2.heap[w.heap.size + 1]? = some (.cells #[.bool true, .string (t.extract 2 t.size)] 28 (0, 0)) := by rw [← hW]; exact heap_alloc2_new _ _ _
          have hB2 : Below w.heap.size w W2 := by rw [← hW]; exact below_drew (((Below.refl _ w).alloc (Nat.le_refl _) _).alloc (by simp) _)
          have c0 : W2.cell? ⟨w.heap.size + 1, 0, none⟩ = some (.bool true) := cell_of_row _ _ _ _ _ _ r1
          have c1 : W2.cell? ⟨w.heap.size + 1, 1, none⟩ = some (.string (t.extract 2 t.size)) := cell_of_row _ _ _ _ _ _ r1
          clear hW
          go_wp2_with fail
          refine (HCheck.out _ _).mono ?_
          rintro e w3 ⟨rfl, hb3⟩
          have s0 := (hb3.block _ (Array.getElem?_eq_some_iff.1 r0).1).trans r0
          have s1 := (hb3.block _ (Array.getElem?_eq_some_iff.1 r1).1).trans r1
          have hB3 := hB2.trans (hb3.mono hB2.size)
          have d0 : w3.cell? ⟨w.heap.size, 0, none⟩ = some (.bool false) := cell_of_row _ _ _ _ _ _ s0
          have d1 : w3.cell? ⟨w.heap.size, 1, none⟩ = some (.string ⟨#[]⟩) := cell_of_row _ _ _ _ _ _ s0
          have z0 : w3.frozen? ⟨w.heap.size, 0, none⟩ = false := frozen_of_row _ _ _ _ _ s0
          have z1 : w3.frozen? ⟨w.heap.size, 1, none⟩ = false := frozen_of_row _ _ _ _ _ s0
          have d2 : w3.cell? ⟨w.heap.size + 1, 0, none⟩ = some (.bool true) := cell_of_row _ _ _ _ _ _ s1
          have d3 : w3.cell? ⟨w.heap.size + 1, 1, none⟩ = some (.string (t.extract 2 t.size)) := cell_of_row _ _ _ _ _ _ s1
          have S0 := hide s0
          clear c0 c1 r0 r1 hb3 s0 s1 hB2
          by_cases hE0 : E = 0
          · subst hE0
            go_wp2_with fail
            have q := two_cells w3 w.heap.size _ _ (.bool true) (.string (t.extract 2 t.size)) _ S0.out
            exact bodyPost_ret (v := .tuple #[.agg #[.bool true, .string (t.extract 2 t.size)], .int .i64 0]) (by simp [results, Tryd.results40, go_sem, q.1, q.2]) rfl (HPost.out _ _ _ _ rfl (fun _ => ⟨HB.out, HZ.out⟩) ((hB3.setCell (p := ⟨w.heap.size, 0, none⟩) (by simp) _).setCell (p := ⟨w.heap.size, 1, none⟩) (by simp) _))
          · have hk1 : ((E : Int) == 0) = false := by rw [beq_eq_false_iff_ne]; omega
            have hk2 : ((E : Int) != 0) = true := by rw [bne, hk1]; rfl
            have HE0 := hide hE0
            clear hE0
            go_wp2_with fail
            have q := two_cells w3 w.heap.size _ _ (.bool false) (.string ⟨#[]⟩) _ S0.out
            exact bodyPost_ret (v := .tuple #[.agg #[.bool false, .string ⟨#[]⟩], .int .i64 (E : Nat)]) (by simp [results, Tryd.results40, go_sem, q.1, q.2]) rfl (HPost.out _ _ _ _ rfl (fun h => absurd h HE0.out) ((hB3.setCell (p := ⟨w.heap.size, 0, none⟩) (by simp) _).setCell (p := ⟨w.heap.size, 1, none⟩) (by simp) _))
      | false =>
        have b3 := hc3 rfl
        go_wp2_with fail
        refine wp_region_noPanic ?_
        go_region_held (fun _ => True) (trivial) (fail)
        all_goals
          refine NoPanic.normal ?_
          rename_i hH
          clear hH
          generalize hW : ((w.alloc (Obj.cells #[Value.bool false, Value.string ⟨#[]⟩] 28)).alloc (Obj.cells #[Value.bool false, Value.string (t.extract 2 t.size)] 28)).drew = W2
          have r0 : W2.heap[w.heap.size]? = some (.cells #[.bool false, .string ⟨#[]⟩] 28 (0, 0)) := by rw [← hW]; exact heap_alloc2_old _ _ _
          have r1 : W2.heap[w.heap.size + 1]? = some (.cells #[.bool false, .string (t.extract 2 t.size)] 28 (0, 0)) := by rw [← hW]; exact heap_alloc2_new _ _ _
          have hB2 : Below w.heap.size w W2 := by rw [← hW]; exact below_drew (((Below.refl _ w).alloc (Nat.le_refl _) _).alloc (by simp) _)
          have c0 : W2.cell? ⟨w.heap.size + 1, 0, none⟩ = some (.bool false) := cell_of_row _ _ _ _ _ _ r1
          have c1 : W2.cell? ⟨w.heap.size + 1, 1, none⟩ = some (.string (t.extract 2 t.size)) := cell_of_row _ _ _ _ _ _ r1
          clear hW
          go_wp2_with fail
          refine (HCheck.out _ _).mono ?_
          rintro e w3 ⟨rfl, hb3⟩
          have s0 := (hb3.block _ (Array.getElem?_eq_some_iff.1 r0).1).trans r0
          have s1 := (hb3.block _ (Array.getElem?_eq_some_iff.1 r1).1).trans r1
          have hB3 := hB2.trans (hb3.mono hB2.size)
          have d0 : w3.cell? ⟨w.heap.size, 0, none⟩ = some (.bool false) := cell_of_row _ _ _ _ _ _ s0
          have d1 : w3.cell? ⟨w.heap.size, 1, none⟩ = some (.string ⟨#[]⟩) := cell_of_row _ _ _ _ _ _ s0
          have z0 : w3.frozen? ⟨w.heap.size, 0, none⟩ = false := frozen_of_row _ _ _ _ _ s0
          have z1 : w3.frozen? ⟨w.heap.size, 1, none⟩ = false := frozen_of_row _ _ _ _ _ s0
          have d2 : w3.cell? ⟨w.heap.size + 1, 0, none⟩ = some (.bool false) := cell_of_row _ _ _ _ _ _ s1
          have d3 : w3.cell? ⟨w.heap.size + 1, 1, none⟩ = some (.string (t.extract 2 t.size)) := cell_of_row _ _ _ _ _ _ s1
          have S0 := hide s0
          clear c0 c1 r0 r1 hb3 s0 s1 hB2
          by_cases hE0 : E = 0
          · subst hE0
            go_wp2_with fail
            have q := two_cells w3 w.heap.size _ _ (.bool false) (.string (t.extract 2 t.size)) _ S0.out
            exact bodyPost_ret (v := .tuple #[.agg #[.bool false, .string (t.extract 2 t.size)], .int .i64 0]) (by simp [results, Tryd.results40, go_sem, q.1, q.2]) rfl (HPost.out _ _ _ _ rfl (fun _ => ⟨HB.out, HZ.out⟩) ((hB3.setCell (p := ⟨w.heap.size, 0, none⟩) (by simp) _).setCell (p := ⟨w.heap.size, 1, none⟩) (by simp) _))
          · have hk1 : ((E : Int) == 0) = false := by rw [beq_eq_false_iff_ne]; omega
            have hk2 : ((E : Int) != 0) = true := by rw [bne, hk1]; rfl
            have HE0 := hide hE0
            clear hE0
            go_wp2_with fail
            have q := two_cells w3 w.heap.size _ _ (.bool false) (.string ⟨#[]⟩) _ S0.out
            exact bodyPost_ret (v := .tuple #[.agg #[.bool false, .string ⟨#[]⟩], .int .i64 (E : Nat)]) (by simp [results, Tryd.results40, go_sem, q.1, q.2]) rfl (HPost.out _ _ _ _ rfl (fun h => absurd h HE0.out) ((hB3.setCell (p := ⟨w.heap.size, 0, none⟩) (by simp) _).setCell (p := ⟨w.heap.size, 1, none⟩) (by simp) _))
    · have HE := hide (show E = 3 by
        rw [hE]
        refine oneE_bad fun h => hok ?_
        rw [e0, e1] at h
        exact ⟨by simpa using h.2.2.1, by simpa using h.2.2.2⟩)
      have hu : ∀ a b : UInt8, a ≠ b → ((a.toNat : Int) == (b.toNat : Int)) = false := fun a b h => beq_eq_false_iff_ne.2 fun e => h (UInt8.toNat_inj.1 (by omega))
      have hcase : (((x0.toNat : Int) == 43) = false ∧ ((x0.toNat : Int) == 45) = false) ∨ (x0 = 43 ∧ ((x1.toNat : Int) == 32) = false) ∨ (x0 = 45 ∧ ((x1.toNat : Int) == 32) = false) := by
        by_cases a43 : x0 = 43
        · exact .inr (.inl ⟨a43, hu x1 32 fun e => hok ⟨.inl a43, e⟩⟩)
        · by_cases a45 : x0 = 45
          · exact .inr (.inr ⟨a45, hu x1 32 fun e => hok ⟨.inr a45, e⟩⟩)
          · exact .inl ⟨hu x0 43 a43, hu x0 45 a45⟩
      clear hE hlast htl hl hd hlen e0 e1 hsl hst hok hu
      rcases hcase with ⟨a1, a2⟩ | ⟨rfl, a1⟩ | ⟨rfl, a1⟩
      · have a3 : ((x0.toNat : Int) != 43) = true := by rw [bne, a1]; rfl
        have a4 : ((x0.toNat : Int) != 45) = true := by rw [bne, a2]; rfl
        go_enter Tryd.func40, Tryd.ntmps40
        go_wp2_with fail
        refine (HCut.out _).mono ?_
        rintro e w1 ⟨rfl, rfl⟩
        go_wp2_with fail
        exact bodyPost_ret (v := .tuple #[.agg #[.bool false, .string ⟨#[]⟩], .int .i64 3]) (by simp [results, Tryd.results40, go_sem]) rfl (HPost.out _ _ _ _ (by rw [HE.out]; rfl) (fun h => absurd h (by rw [HE.out]; decide)) (((Below.refl _ w).alloc (Nat.le_refl _) _)))
      · have a3 : ((x1.toNat : Int) != 32) = true := by rw [bne, a1]; rfl
        go_enter Tryd.func40, Tryd.ntmps40
        go_wp2_with fail
        refine (HCut.out _).mono ?_
        rintro e w1 ⟨rfl, rfl⟩
        go_wp2_with fail
        exact bodyPost_ret (v := .tuple #[.agg #[.bool false, .string ⟨#[]⟩], .int .i64 3]) (by simp [results, Tryd.results40, go_sem]) rfl (HPost.out _ _ _ _ (by rw [HE.out]; rfl) (fun h => absurd h (by rw [HE.out]; decide)) (((Below.refl _ w).alloc (Nat.le_refl _) _)))
      · have a3 : ((x1.toNat : Int) != 32) = true := by rw [bne, a1]; rfl
        go_enter Tryd.func40, Tryd.ntmps40
        go_wp2_with fail
        refine (HCut.out _).mono ?_
        rintro e w1 ⟨rfl, rfl⟩
        go_wp2_with fail
        exact bodyPost_ret (v := .tuple #[.agg #[.bool false, .string ⟨#[]⟩], .int .i64 3]) (by simp [results, Tryd.results40, go_sem]) rfl (HPost.out _ _ _ _ (by rw [HE.out]; rfl) (fun h => absurd h (by rw [HE.out]; decide)) (((Below.refl _ w).alloc (Nat.le_refl _) _)))
  · have HE := hide (show E = 3 by
      rw [hE]
      refine oneE_bad fun h => hB1 ⟨hlast.2 h.1, ?_⟩
      have h3 := congrArg List.length (htl (hlast.2 h.1))
      rw [List.length_dropLast, hst] at h3
      omega)
    have hcase : B = false ∨ (B = true ∧ (t.size : Int) < 2) := by
      cases B with
      | false => exact .inl rfl
      | true => exact .inr ⟨rfl, by have : ¬ 2 ≤ t.size := fun h => hB1 ⟨rfl, h⟩; omega⟩
    clear hE hlast htl hsl hst hB1
    rcases hcase with rfl | ⟨rfl, h2⟩
    · go_enter Tryd.func40, Tryd.ntmps40
      go_wp2_with fail
      refine (HCut.out _).mono ?_
      rintro e w1 ⟨rfl, rfl⟩
      go_wp2_with fail
      exact bodyPost_ret (v := .tuple #[.agg #[.bool false, .string ⟨#[]⟩], .int .i64 3]) (by simp [results, Tryd.results40, go_sem]) rfl (HPost.out _ _ _ _ (by rw [HE.out]; rfl) (fun h => absurd h (by rw [HE.out]; decide)) (((Below.refl _ w).alloc (Nat.le_refl _) _)))
    · go_enter Tryd.func40, Tryd.ntmps40
      go_wp2_with fail
      refine (HCut.out _).mono ?_
      rintro e w1 ⟨rfl, rfl⟩
      go_wp2_with fail
      exact bodyPost_ret (v := .tuple #[.agg #[.bool false, .string ⟨#[]⟩], .int .i64 3]) (by simp [results, Tryd.results40, go_sem]) rfl (HPost.out _ _ _ _ (by rw [HE.out]; rfl) (fun h => absurd h (by rw [HE.out]; decide)) (((Below.refl _ w).alloc (Nat.le_refl _) _)))
end Go.Proofs.YthlalmehcpionaaDoor
/-
  A text's lines: strings.Lines tells them.
-/
namespace Go.Proofs.YthlalmehcpionaaDoor
open Go.RowKit
set_option maxRecDepth 100000
attribute [local go_sem] Oper.semAt_some

/-- A text's lines, each with its line feed; the last one may lack it. -/
def linesL : List UInt8 → List (List UInt8)
  | [] => []
  | c :: r => if c == 10 then [10] :: linesL r else match linesL r with
    | [] => [[c]]
    | h :: t => (c :: h) :: t
theorem lines_nil : linesL [] = [] := rfl
theorem lines_none : ∀ l : List UInt8, Lib.indexByte l 10 = -1 → l ≠ [] → linesL l = [l]
  | [], _, h => absurd rfl h
  | c :: r, h, _ => by
    unfold Lib.indexByte at h
    split at h
    · omega
    · rename_i hc
      have hr : Lib.indexByte r 10 = -1 := by
        split at h
        · rename_i h1; simpa using h1
        · have := Lib.indexByte_ge r 10; omega
      unfold linesL
      rw [if_neg hc]
      cases r with
      | nil => rfl
      | cons d s => rw [lines_none (d :: s) hr (by simp)]
theorem lines_some : ∀ (l : List UInt8) (o : Nat), Lib.indexByte l 10 = o → linesL l = l.take (o + 1) :: linesL (l.drop (o + 1)) ∧ o < l.length
  | [], o, h => by unfold Lib.indexByte at h; omega
  | c :: r, o, h => by
    unfold Lib.indexByte at h
    split at h
    · rename_i hc
      obtain rfl : o = 0 := by omega
      have e : c = 10 := by simpa using hc
      unfold linesL
      rw [if_pos hc]
      refine ⟨?_, by simp⟩
      rw [e]
      simp
      cases r <;> simp [linesL]
    · rename_i hc
      split at h
      · omega
      · rename_i h1
        have hge := Lib.indexByte_ge r 10
        obtain ⟨o', ho⟩ : ∃ o' : Nat, Lib.indexByte r 10 = o' := ⟨(Lib.indexByte r 10).toNat, by simp at h1; omega⟩
        obtain rfl : o = o' + 1 := by omega
        obtain ⟨e, hl⟩ := lines_some r o' ho
        constructor
        · rw [linesL.eq_def]
          simp only [hc, if_false, Bool.false_eq_true, e]
          simp
        · simp; omega

theorem strIndexByte_any (s : ByteArray) (c : UInt8) (w : World) :
    Calls Tryd.prog 52 #[.string s, .int .u8 c.toNat] w fun e w' => e = .returned (.int .i64 (Lib.indexByte s.data.toList c)) ∧ w = w' := by
  go_enter Tryd.func52, Tryd.ntmps52
  go_wp2_with fail
  refine (indexByte_any s c _).mono ?_
  rintro e w1 ⟨rfl, rfl⟩
  go_wp2
  go_ret
  exact ⟨rfl, rfl⟩
theorem linesOf_any (p : ByteArray) (w : World) :
    Calls Tryd.prog 39 #[.string p] w fun e w' => e = .returned (.func (.func 51) #[] #[.pointer (some ⟨w.heap.size, 0, none⟩)]) ∧ w' = w.alloc (.cells #[.string p] 9) := by
  go_enter Tryd.func39, Tryd.ntmps39
  go_wp2
  go_ret
  exact ⟨rfl, rfl⟩

set_option maxHeartbeats 4000000 in
theorem lines_seq (n : Nat) (b : Nat) (s : ByteArray) (w : World) (hss : (s.size : Int) ≤ 1000000) (l1 : b < w.heap.size) (c1 : w.heap[b]? = some (.cells #[.string s] 9 (0, 0))) :
    SeqT Fence.wide n Tryd.prog 51 #[.pointer (some ⟨b, 0, none⟩)] (fun x : ByteArray => #[.string x]) [b]
      (fun xs => xs.map toL = linesL (toL s)) (fun pre => pre.map toL <+: linesL (toL s)) w := by
  intro l J Jx W hW hJ hJx hY h0
  obtain ⟨T, hT⟩ : ∃ T, T = linesL (toL s) := ⟨_, rfl⟩
  rw [← hT] at hY ⊢
  have HT := hide hT
  clear hT
  have hJ := hJ W.heap.size (Nat.le_refl _)
  have hY := fun pre x W1 => hY W.heap.size pre x W1 (Nat.le_refl _)
  have h0 := h0 W.heap.size (Nat.le_refl _)
  refine (CallsIn.mono ?_ (fun e W' (h : (∃ v, e = Ending.returned v) ∧ ((∃ xs : List ByteArray, xs.map toL = T ∧ J W.heap.size xs W') ∨ (∃ pre : List ByteArray, pre.map toL <+: T ∧ Jx W.heap.size pre W'))) => ⟨h.1, W.heap.size, Nat.le_refl _, h.2⟩))
  have k1 : W.heap[b]? = some (.cells #[.string s] 9 (0, 0)) := (hW.block _ l1).trans c1
  clear c1 hW l1 hJx
  have d1 : W.cell? ⟨b, 0, none⟩ = some (.string s) := cell_of_row _ _ _ _ _ _ k1
  refine callsIn_of_wp Tryd.func51 rfl trivial ?_ rfl
  simp only [Tryd.ntmps51, List.size_toArray, List.length_cons, List.length_nil, Nat.reduceAdd, Nat.reduceSub, Array.replicate_succ, Array.replicate_zero, List.push_toArray, List.append_toArray, List.nil_append, List.cons_append]
  gi_wp2
  gi_loopw [3] (fun _ wr => ∃ (pre : List ByteArray) (t : ByteArray), wr.heap[b]? = some (.cells #[.string t] 9 (0, 0)) ∧ Hid (pre.map toL ++ linesL (toL t) = T) ∧ t.size ≤ s.size ∧ W.heap.size ≤ wr.heap.size ∧ J W.heap.size pre wr) (fun _ wr => boxLen wr b)
  case atStart => exact ⟨[], s, k1, hide HT.out.symm, Nat.le_refl _, Nat.le_refl _, h0⟩
  case round =>
    obtain ⟨pre, t, e1, HP, hts, hsz, hj⟩ := hrel
    have f1 : wr.cell? ⟨b, 0, none⟩ = some (.string t) := cell_of_row _ _ _ _ _ _ e1
    have z1 : wr.frozen? ⟨b, 0, none⟩ = false := frozen_of_row _ _ _ _ _ e1
    clear d1 k1
    by_cases hp : (0 : Int) < t.size
    · rcases index_cases t.data.toList 10 with hi | ⟨o, hi⟩
      · have hne : toL t ≠ [] := fun h => by
          have h2 := congrArg List.length h
          rw [size_toL, List.length_nil] at h2
          omega
        have hn := lines_none (toL t) hi hne
        have HE := hide (show (pre ++ [t]).map toL = T by rw [← HP.out, hn, List.map_append]; rfl)
        have HI := hide (fun W => strIndexByte_any t 10 W)
        rw [hi] at HI
        have e2 : (wr.setCell ⟨b, 0, none⟩ (.string ⟨#[]⟩)).heap[b]? = some (.cells #[.string ⟨#[]⟩] 9 (0, 0)) := heap_setCell_same _ _ _ _ _ _ e1
        have hj1 : J W.heap.size pre (wr.setCell ⟨b, 0, none⟩ (.string ⟨#[]⟩)) := hJ _ _ _ (some b) hj (grownBy_setCell _ _ _) (fun r e => by cases e; exact .inl (by simp))
        have hs1 : W.heap.size ≤ (wr.setCell ⟨b, 0, none⟩ (.string ⟨#[]⟩)).heap.size := by simpa [World.setCell] using hsz
        obtain ⟨fn, tmps, assign, body, hy, hR⟩ := hY pre t (wr.setCell ⟨b, 0, none⟩ (.string ⟨#[]⟩)) hs1 hj1 (by rw [HE.out]; exact List.prefix_refl _)
        have HR := hide hR
        clear hi hY hR hne hn HP hj1
        gi_wp2_with fail
        refine ⟨trivial, fun h => (by cases h), (callsIn_wide.2 (HI.out _)).mono ?_⟩
        rintro e w' ⟨rfl, rfl⟩
        gi_wp2_with fail
        refine ⟨fun h => (by cases h), HR.out.mono ?_⟩
        rintro e W' (⟨rfl, hJ', hk⟩ | ⟨rfl, hJx', hk⟩)
        · have g1 := (hk.2 b (.inl (by simp))).trans e2
          have hs2 : W.heap.size ≤ W'.heap.size := Nat.le_trans hs1 hk.1
          gi_wp2_with fail
          go_roundw
          case rel => exact ⟨pre ++ [t], ⟨#[]⟩, g1, hide (by rw [HE.out]; exact List.append_nil T), Nat.zero_le _, hs2, hJ'⟩
          case measure => rw [boxLen_eq (cell_of_row _ _ _ _ _ _ g1), boxLen_eq f1]; show 0 < t.size; omega
        · gi_wp2_with fail
          refine bodyPost_ret (results_none rfl _ _ _) rfl ?_
          exact ⟨⟨_, rfl⟩, .inr ⟨pre ++ [t], by rw [HE.out]; exact List.prefix_refl _, hJx'⟩⟩
      · obtain ⟨hn, hol⟩ := lines_some _ o hi
        rw [← Lib.size_eq] at hol
        have HI := hide (fun W => strIndexByte_any t 10 W)
        rw [hi] at HI
        have q1 : toL (t.extract 0 (o + 1)) = t.data.toList.take (o + 1) := by unfold toL; rw [Lib.extract_data]; simp
        have q2 : toL (t.extract (o + 1) t.size) = t.data.toList.drop (o + 1) := by
          unfold toL
          rw [Lib.extract_data, List.take_of_length_le (by simp)]
        have HE := hide (show (pre ++ [t.extract 0 (o + 1)]).map toL ++ linesL (toL (t.extract (o + 1) t.size)) = T by
          rw [← HP.out, List.map_append, q2, show linesL (toL t) = t.data.toList.take (o + 1) :: linesL (t.data.toList.drop (o + 1)) from hn, ← q1]
          simp)
        have hz2 : (t.extract (o + 1) t.size).size < t.size := by simp [ByteArray.size_extract]; omega
        have o1 : IntKind.i64.wrap ((o : Int) + 1) = ((o + 1 : Nat) : Int) := by rw [IntWalk.i64_in _ (by omega)]; rfl
        have o2 : (0 : Int) ≤ ((o + 1 : Nat) : Int) := by omega
        have o3 : ((o + 1 : Nat) : Int) ≤ t.size := by omega
        have o4 : (0 : Int) ≤ o := by omega
        have o5 : (0 : Int) ≤ (o : Int) + 1 := by omega
        have o6 : (o : Int) + 1 ≤ t.size := by omega
        obtain ⟨W1, hW1⟩ : ∃ W1, W1 = (wr.setCell ⟨b, 0, none⟩ (.string (t.extract (o + 1) t.size))).drew := ⟨_, rfl⟩
        have e2 : W1.heap[b]? = some (.cells #[.string (t.extract (o + 1) t.size)] 9 (0, 0)) := by rw [hW1]; exact heap_setCell_same _ _ _ _ _ _ e1
        have hj1 : J W.heap.size pre W1 := by
          rw [hW1]
          exact hJ _ _ _ none (hJ _ _ _ (some b) hj (grownBy_setCell _ _ _) (fun r e => by cases e; exact .inl (by simp))) (grownBy_below (below_drew (Below.refl _ _))) (fun r e => by cases e)
        have hs1 : W.heap.size ≤ W1.heap.size := by rw [hW1]; show _ ≤ (wr.setCell _ _).heap.size; simpa [World.setCell] using hsz
        obtain ⟨fn, tmps, assign, body, hy, hR⟩ := hY pre (t.extract 0 (o + 1)) W1 hs1 hj1 ⟨_, HE.out⟩
        have HR := hide hR
        have HW := hide hW1
        have HZ := hide hz2
        have HTS := hide hts
        clear hi hY hR hn HP hj1 hW1 hol q1 q2 hz2 hts
        gi_wp2_with fail
        refine ⟨trivial, fun h => (by cases h), (callsIn_wide.2 (HI.out _)).mono ?_⟩
        rintro e w' ⟨rfl, rfl⟩
        gi_wp2_with fail
        refine wpIn_wide.2 ?_
        go_region_law (fail)
        all_goals
          rw [← HW.out]
          clear HW
          gi_wp2_with fail
          refine ⟨fun h => (by cases h), HR.out.mono ?_⟩
          rintro e W' (⟨rfl, hJ', hk⟩ | ⟨rfl, hJx', hk⟩)
          · have g1 := (hk.2 b (.inl (by simp))).trans e2
            have hs2 : W.heap.size ≤ W'.heap.size := Nat.le_trans hs1 hk.1
            gi_wp2_with fail
            go_roundw
            case rel => exact ⟨pre ++ [t.extract 0 (o + 1)], t.extract (o + 1) t.size, g1, HE, by have := HZ.out; have := HTS.out; omega, hs2, hJ'⟩
            case measure => rw [boxLen_eq (cell_of_row _ _ _ _ _ _ g1), boxLen_eq f1]; exact HZ.out
          · gi_wp2_with fail
            refine bodyPost_ret (results_none rfl _ _ _) rfl ?_
            exact ⟨⟨_, rfl⟩, .inr ⟨pre ++ [t.extract 0 (o + 1)], ⟨_, HE.out⟩, hJx'⟩⟩
    · have hz : t.size = 0 := by omega
      have HE := hide (show pre.map toL = T by
        rw [← HP.out, show toL t = [] from List.length_eq_zero_iff.1 (by rw [size_toL, hz]), lines_nil, List.append_nil])
      clear hY HP hz
      gi_wp2_with fail
      go_end0
      exact ⟨⟨_, rfl⟩, .inl ⟨pre, HE.out, hj⟩⟩
end Go.Proofs.YthlalmehcpionaaDoor
/-
  The program's Parse: the rules of a text's lines, or the first line that is none.
-/
namespace Go.Proofs.YthlalmehcpionaaDoor
open Go.RowKit
set_option maxRecDepth 100000

theorem lines_mem : ∀ (n : Nat) (s : List UInt8), s.length ≤ n → ∀ x, x ∈ linesL s → x.length ≤ s.length := by
  intro n
  induction n with
  | zero =>
    intro s hs x hx
    have : s = [] := List.length_eq_zero_iff.1 (by omega)
    subst this
    rw [lines_nil] at hx
    cases hx
  | succ n ih =>
    intro s hs x hx
    by_cases hn : s = []
    · subst hn; rw [lines_nil] at hx; cases hx
    · rcases index_cases s 10 with h | ⟨o, h⟩
      · rw [lines_none s h hn] at hx
        simp at hx
        subst hx
        exact Nat.le_refl _
      · obtain ⟨e, hl⟩ := lines_some s o h
        rw [e, List.mem_cons] at hx
        rcases hx with rfl | hx
        · rw [List.length_take]; omega
        · have h2 := ih (s.drop (o + 1)) (by rw [List.length_drop]; omega) x hx
          rw [List.length_drop] at h2
          omega
/-- The number of the first line that is no rule, and what is wrong with it. -/
def parseE (k : Nat) : List (List UInt8) → Nat × Nat
  | [] => (0, 0)
  | x :: t => if (if k = 16 then 5 else oneE x) = 0 then parseE (k + 1) t else (k + 1, if k = 16 then 5 else oneE x)
theorem parse_full {k : Nat} {x : List UInt8} {t : List (List UInt8)} (h : k = 16) : parseE k (x :: t) = (k + 1, 5) := by
  unfold parseE; simp [h]
theorem parse_bad {k : Nat} {x : List UInt8} {t : List (List UInt8)} (h : k ≠ 16) (he : oneE x ≠ 0) : parseE k (x :: t) = (k + 1, oneE x) := by
  unfold parseE; rw [if_neg h, if_neg he]
theorem parse_good {k : Nat} {x : List UInt8} {t : List (List UInt8)} (h : k ≠ 16) (he : oneE x = 0) : parseE k (x :: t) = parseE (k + 1) t := by
  rw [parseE.eq_def]; simp only [if_neg h, he, if_true]
/-- Rules' cells. -/
def cellsR (l : List (Bool × ByteArray)) : List Value := l.flatMap fun r => [.bool r.1, .string r.2]
theorem cellsR_snoc (l : List (Bool × ByteArray)) (r : Bool × ByteArray) : cellsR (l ++ [r]) = cellsR l ++ [.bool r.1, .string r.2] := by simp [cellsR]
theorem cellsR_get : ∀ (l : List (Bool × ByteArray)) (k : Nat) (r : Bool × ByteArray), l[k]? = some r → (cellsR l)[k * 2]? = some (.bool r.1) ∧ (cellsR l)[k * 2 + 1]? = some (.string r.2)
  | [], k, r, h => by simp at h
  | u :: l, 0, r, h => by
    simp at h
    subst h
    exact ⟨rfl, rfl⟩
  | u :: l, k + 1, r, h => by
    obtain ⟨h1, h2⟩ := cellsR_get l k r (by simpa using h)
    have e : cellsR (u :: l) = Value.bool u.1 :: Value.string u.2 :: cellsR l := rfl
    rw [e, show (k + 1) * 2 = k * 2 + 1 + 1 from by omega, show k * 2 + 1 + 1 + 1 = (k * 2 + 1) + 1 + 1 from rfl]
    exact ⟨by simpa using h1, by simpa using h2⟩
theorem add_zero_off (g k : Nat) : ((⟨g, 0, none⟩ : Addr).add k) = ⟨g, k, none⟩ := by unfold Addr.add; split <;> simp_all
theorem RdR.own {w : World} {B n c : Nat} {A : Option Addr} {l : List (Bool × ByteArray)} (h : w.ownsRow B 28 2 (.slice A n c) n (cellsR l)) : RdR w w.heap.size A l := by
  intro k r hk
  obtain ⟨q1, q2⟩ := cellsR_get l k r hk
  rcases h.2 with ⟨hv, h0⟩ | ⟨g, cap, cur, hv, _, hg, _⟩
  · have h1 := h.1
    rw [h0] at h1
    have : cellsR l = [] := List.length_eq_zero_iff.1 (by omega)
    rw [this] at q1; simp at q1
  · injection hv with hA
    subst hA
    have hc := fun j u hj => h.cells (g := g) rfl j u hj
    refine ⟨_, rfl, (Array.getElem?_eq_some_iff.1 hg).1, hc _ _ q1, ?_⟩
    have h2 := hc _ _ q2
    rw [add_zero_off] at h2 ⊢
    exact h2
/-- What Parse answers. -/
def ParseTo (s : ByteArray) (w : World) (e : Ending) (w' : World) : Prop :=
  Below w.heap.size w w' ∧ (((parseE 0 (linesL (toL s))).2 ≠ 0 ∧ e = .returned (.tuple #[.slice none 0 0, .int .i64 ((parseE 0 (linesL (toL s))).1 : Nat), .int .i64 ((parseE 0 (linesL (toL s))).2 : Nat)])) ∨
    (parseE 0 (linesL (toL s)) = (0, 0) ∧ ∃ (A : Option Addr) (rs : List (Bool × ByteArray)) (c : Nat), e = .returned (.tuple #[.slice A rs.length c, .int .i64 0, .int .i64 0]) ∧ rulesL rs = (linesL (toL s)).map oneR ∧ RdR w' w'.heap.size A rs ∧ (∀ (k : Nat) (r : Bool × ByteArray), rs[k]? = some r → r.2.size ≤ s.size) ∧ rs.length ≤ 16))
theorem info_rule : (Tryd.prog.info? 28).map (fun i => (i.zero, i.size, i.bytes)) = some (some (.agg #[.bool false, .string ⟨#[]⟩]), 2, 24) := by kernel_rfl

theorem five_allocs (w : World) (a b c d e : Obj) : ((((((w.alloc a).alloc b).alloc c).alloc d).alloc e).heap.size = w.heap.size + 5) ∧ Below w.heap.size w (((((w.alloc a).alloc b).alloc c).alloc d).alloc e) ∧
    (((((w.alloc a).alloc b).alloc c).alloc d).alloc e).heap[w.heap.size]? = some a ∧ (((((w.alloc a).alloc b).alloc c).alloc d).alloc e).heap[w.heap.size + 1]? = some b ∧ (((((w.alloc a).alloc b).alloc c).alloc d).alloc e).heap[w.heap.size + 1 + 1]? = some c ∧
    (((((w.alloc a).alloc b).alloc c).alloc d).alloc e).heap[w.heap.size + 1 + 1 + 1]? = some d ∧ (((((w.alloc a).alloc b).alloc c).alloc d).alloc e).heap[w.heap.size + 4]? = some e := by
  refine ⟨by simp, (((((Below.refl _ w).alloc (Nat.le_refl _) _).alloc (by simp) _).alloc (by simp; omega) _).alloc (by simp; omega) _).alloc (by simp; omega) _, ?_, ?_, ?_, ?_, ?_⟩
  · rw [heap_alloc_get, if_neg (by simp <;> omega), heap_alloc_get, if_neg (by simp <;> omega), heap_alloc_get, if_neg (by simp <;> omega), heap_alloc_get, if_neg (by simp), heap_alloc_get, if_pos rfl]
  · rw [heap_alloc_get, if_neg (by simp <;> omega), heap_alloc_get, if_neg (by simp <;> omega), heap_alloc_get, if_neg (by simp), heap_alloc_get, if_pos (by simp)]
  · rw [heap_alloc_get, if_neg (by simp <;> omega), heap_alloc_get, if_neg (by simp), heap_alloc_get, if_pos (by simp)]
  · rw [heap_alloc_get, if_neg (by simp), heap_alloc_get, if_pos (by simp)]
  · rw [heap_alloc_get, if_pos (by simp)]
/-- What Parse has put together. -/
structure PI (w : World) (X : Nat) (v : Value) (rs : List (Bool × ByteArray)) (W : World) : Prop where
  below : Below w.heap.size w W
  b0 : W.heap[w.heap.size]? = some (.cells #[.slice none 0 0] 22 (0, 0))
  b1 : W.heap[w.heap.size + 1]? = some (.cells #[.int .i64 0] 3 (0, 0))
  b2 : W.heap[w.heap.size + 1 + 1]? = some (.cells #[.int .i64 0] 25 (0, 0))
  b3 : W.heap[w.heap.size + 1 + 1 + 1]? = some (.cells #[v] 22 (0, 0))
  own : W.ownsRow X 28 2 v rs.length (cellsR rs)
theorem PI.grown {w A B : World} {X : Nat} {v : Value} {rs : List (Bool × ByteArray)} {row : Option Nat} (h : PI w X v rs A) (hg : A.grownBy B row) (hr : ∀ r, row = some r → w.heap.size + 4 ≤ r ∧ r < X) : PI w X v rs B := by
  have ne : ∀ k, k < w.heap.size + 4 → ¬ k = row := fun k hk e => by have := (hr k e.symm).1; omega
  have keep : ∀ (k : Nat) (o : Obj), k < w.heap.size + 4 → A.heap[k]? = some o → B.heap[k]? = some o := fun k o hk ho =>
    (hg.block k (Array.getElem?_eq_some_iff.1 ho).1 (fun e => ne k hk e)).trans ho
  refine ⟨h.below.grown hg h.below.size (fun r e => by have := (hr r e).1; omega), keep _ _ (by omega) h.b0, keep _ _ (by omega) h.b1, keep _ _ (by omega) h.b2, keep _ _ (by omega) h.b3, h.own.kept hg ?_⟩
  cases ho : v.ownBlock with
  | none => exact .inl rfl
  | some k =>
    right
    intro e
    have h1 := (h.own.lt k ho).1
    have h2 := (hr k e.symm).2
    omega
theorem PI.step {w A B : World} {X : Nat} {v : Value} {rs : List (Bool × ByteArray)} (h : PI w X v rs A) (hb : Below A.heap.size A B) : PI w X v rs B := h.grown (grownBy_below hb) (fun r e => by cases e)
/-- What Parse leaves when it tells of a line. -/
def BadRows (w : World) (a b c : Value) (W : World) : Prop := W.heap[w.heap.size]? = some (.cells #[a] 22 (0, 0)) ∧ W.heap[w.heap.size + 1]? = some (.cells #[b] 3 (0, 0)) ∧ W.heap[w.heap.size + 1 + 1]? = some (.cells #[c] 25 (0, 0)) ∧ Below w.heap.size w W
theorem PI.bad {w W : World} {X : Nat} {v : Value} {rs : List (Bool × ByteArray)} (h : PI w X v rs W) (a b c : Value) :
    BadRows w a b c (((W.setCell ⟨w.heap.size, 0, none⟩ a).setCell ⟨w.heap.size + 1, 0, none⟩ b).setCell ⟨w.heap.size + 1 + 1, 0, none⟩ c) := by
  have e0 := heap_setCell_same W w.heap.size 0 _ _ a h.b0
  have e1 := heap_setCell_same (W.setCell ⟨w.heap.size, 0, none⟩ a) (w.heap.size + 1) 0 _ _ b ((heap_setCell_other _ _ _ _ (by simp)).trans h.b1)
  have e2 := heap_setCell_same ((W.setCell ⟨w.heap.size, 0, none⟩ a).setCell ⟨w.heap.size + 1, 0, none⟩ b) (w.heap.size + 1 + 1) 0 _ _ c ((heap_setCell_other _ _ _ _ (by simp)).trans ((heap_setCell_other _ _ _ _ (by simp; omega)).trans h.b2))
  exact ⟨(heap_setCell_other _ _ _ _ (by simp; omega)).trans ((heap_setCell_other _ _ _ _ (by simp)).trans e0), (heap_setCell_other _ _ _ _ (by simp)).trans e1, e2,
    ((h.below.setCell (p := ⟨w.heap.size, 0, none⟩) (by simp) _).setCell (p := ⟨w.heap.size + 1, 0, none⟩) (by simp) _).setCell (p := ⟨w.heap.size + 1 + 1, 0, none⟩) (by simp; omega) _⟩
theorem BadRows.drew {w W : World} {a b c : Value} (h : BadRows w a b c W) : BadRows w a b c W.drew := ⟨h.1, h.2.1, h.2.2.1, below_drew h.2.2.2⟩
theorem lies_set {U : Nat → Prop} {A B : World} (h : Lies U A B) (g k : Nat) (v : Value) (hg : ¬ U g) : Lies U A (B.setCell ⟨g, k, none⟩ v) :=
  ⟨by simpa [World.setCell] using h.1, fun i hi => (heap_setCell_other _ _ _ _ (fun e => hg (by rw [← show i = g from e]; exact hi))).trans (h.2 i hi)⟩
theorem lies_drew {U : Nat → Prop} {A B : World} (h : Lies U A B) : Lies U A B.drew := h
theorem cells_new2 (w : World) (o : Obj) (a b : Value) (T : TypeId) (j : Nat) (u : Value) (h : [a, b][j]? = some u) : ((w.alloc o).alloc (.cells #[a, b] T)).cell? ((⟨w.heap.size + 1, 0, none⟩ : Addr).add j) = some u := by
  rw [add_zero_off]
  have h2 := World.alloc_heap_new (w.alloc o) (Obj.cells #[a, b] T)
  rw [World.size_alloc] at h2
  exact (cell_of_row _ _ _ _ _ _ h2).trans (by rw [← h]; simp)
theorem PI.more {w W w' : World} {X : Nat} {v v' : Value} {rs : List (Bool × ByteArray)} {kp : Bool} {pat : ByteArray} (h : PI w X v rs W) (O : Obj) (hX : w.heap.size + 7 ≤ X) (hWX : X ≤ W.heap.size) (ho : w'.ownsRow X 28 2 v' (rs.length + 1) (cellsR rs ++ [.bool kp, .string pat])) (hg : (W.alloc O).grownBy w' v.ownBlock) :
    w'.heap[w.heap.size + 1 + 1 + 1]? = some (.cells #[v] 22 (0, 0)) ∧ PI w X v' (rs ++ [(kp, pat)]) (w'.setCell ⟨w.heap.size + 1 + 1 + 1, 0, none⟩ v') ∧
    ∀ (U : Nat → Prop) (W0 : World), (∀ k, U k → k < X ∧ k ≠ w.heap.size + 1 + 1 + 1) → Lies U W0 W → Lies U W0 (w'.setCell ⟨w.heap.size + 1 + 1 + 1, 0, none⟩ v') := by
  have h1 := h.step ((Below.refl _ W).alloc (Nat.le_refl _) O)
  have ne : ∀ k, k < X → ¬ some k = v.ownBlock := fun k hk e => by have := (h1.own.lt k e.symm).1; omega
  have keep : ∀ (k : Nat) (o : Obj), k < X → (W.alloc O).heap[k]? = some o → w'.heap[k]? = some o := fun k o hk hh => (hg.block k (Array.getElem?_eq_some_iff.1 hh).1 (fun e => ne k hk e)).trans hh
  have e3 := keep _ _ (by omega) h1.b3
  refine ⟨e3, ⟨?_, ?_, ?_, ?_, heap_setCell_same _ _ _ _ _ _ e3, ?_⟩, fun U W0 hU hL => ?_⟩
  · exact (h1.below.grown hg h1.below.size (fun r e => by have := (h1.own.lt r e).1; omega)).setCell (p := ⟨w.heap.size + 1 + 1 + 1, 0, none⟩) (by simp <;> omega) _
  · exact (heap_setCell_other _ _ _ _ (by simp; omega)).trans (keep _ _ (by omega) h1.b0)
  · exact (heap_setCell_other _ _ _ _ (by simp <;> omega)).trans (keep _ _ (by omega) h1.b1)
  · exact (heap_setCell_other _ _ _ _ (by simp)).trans (keep _ _ (by omega) h1.b2)
  · rw [List.length_append, cellsR_snoc]
    exact ownsRow_setCell_below ho (by show w.heap.size + 1 + 1 + 1 < X; omega) _
  · refine lies_set ⟨?_, fun k hk => ?_⟩ _ _ _ (fun hk => (hU _ hk).2 rfl)
    · have := hL.1
      have := hg.size
      simp at this
      omega
    · have hk1 := (hU k hk).1
      have e4 : (W.alloc O).heap[k]? = W.heap[k]? := Below.heap_alloc _ _ _ (by omega)
      exact (hg.block k (by simp; omega) (fun e => ne k hk1 e)).trans (e4.trans (hL.2 k hk))
theorem rulesL_snoc (l : List (Bool × ByteArray)) (r : Bool × ByteArray) : rulesL (l ++ [r]) = rulesL l ++ [(r.1, toL r.2)] := by simp [rulesL]
theorem rules_len {rs : List (Bool × ByteArray)} {l : List (List UInt8)} (h : rulesL rs = l.map oneR) : rs.length = l.length := by
  have := congrArg List.length h
  simpa [rulesL] using this

attribute [local go_sem] Oper.semAt_some
set_option maxHeartbeats 8000000 in
theorem parse_in (s : ByteArray) (w : World) (hs : (s.size : Int) ≤ 1000000) : CallsIn Fence.wide 5 Tryd.prog 21 #[.string s] w (ParseTo s w) := by
  obtain ⟨i0, hi, hz0, hz1, hz2⟩ := info_parts info_rule
  obtain ⟨T, hT⟩ : ∃ T, T = linesL (toL s) := ⟨_, rfl⟩
  obtain ⟨N, E, hNE⟩ : ∃ N E, parseE 0 T = (N, E) := ⟨_, _, rfl⟩
  have HBadP := hide (show ∀ e w', Below w.heap.size w w' → E ≠ 0 → e = .returned (.tuple #[.slice none 0 0, .int .i64 (N : Nat), .int .i64 (E : Nat)]) → ParseTo s w e w' from fun e w' h1 h2 h3 => ⟨h1, .inl (by rw [← hT, hNE]; exact ⟨h2, h3⟩)⟩)
  have HGoodP := hide (show ∀ e w' (A : Option Addr) (rs : List (Bool × ByteArray)) (c : Nat), Below w.heap.size w w' → (N, E) = ((0, 0) : Nat × Nat) → e = .returned (.tuple #[.slice A rs.length c, .int .i64 0, .int .i64 0]) → rulesL rs = T.map oneR → RdR w' w'.heap.size A rs → (∀ (k : Nat) (r : Bool × ByteArray), rs[k]? = some r → r.2.size ≤ s.size) → rs.length ≤ 16 → ParseTo s w e w' from
    fun e w' A rs c h1 h2 h3 h4 h5 h6 h7 => ⟨h1, .inr (by rw [← hT, hNE]; exact ⟨h2, A, rs, c, h3, h4, h5, h6, h7⟩)⟩)
  have HNE := hide hNE
  have HMem := hide (show ∀ x ∈ T, x.length ≤ s.size from fun x hx => by rw [hT] at hx; have h := lines_mem _ _ (Nat.le_refl _) x hx; rw [size_toL] at h; exact h)
  have HT := hide hT
  clear hT hNE
  refine callsIn_of_wp_marks Tryd.func21 rfl trivial ?_ rfl
  simp only [Tryd.ntmps21, List.size_toArray, List.length_cons, List.length_nil, Nat.reduceAdd, Nat.reduceSub, Array.replicate_succ, Array.replicate_zero, List.push_toArray, List.append_toArray, List.nil_append, List.cons_append]
  gi_wp2_with fail
  refine ⟨trivial, (callsIn_wide.2 (linesOf_any s _)).mono ?_⟩
  rintro e w1 ⟨rfl, hw1⟩
  obtain ⟨hsz1, hB1, r0, r1, r2, r3, r4⟩ := five_allocs w (.cells #[.slice none 0 0] 22) (.cells #[.int .i64 0] 3) (.cells #[.int .i64 0] 25) (.cells #[.slice none 0 0] 22) (.cells #[.string s] 9)
  rw [← hw1] at hsz1 hB1 r0 r1 r2 r3 r4
  have e2 : ((((w.alloc (Obj.cells #[Value.slice none 0 0] 22)).alloc (Obj.cells #[Value.int IntKind.i64 0] 3)).alloc (Obj.cells #[Value.int IntKind.i64 0] 25)).alloc (Obj.cells #[Value.slice none 0 0] 22)).heap.size = w.heap.size + 4 := by simp
  rw [e2]
  clear hw1 e2
  have HPI0 := hide (fun X => (⟨hB1, r0, r1, r2, r3, World.ownsRow_nil _ _ _ _⟩ : PI w X (.slice none 0 0) [] w1))
  clear r0 r1 r2 r3
  gi_wp2_with fail
  refine wpIn_rangeT (α := ByteArray) rfl (by omega) (gf := 51) (lb := #[.pointer (some ⟨w.heap.size + 4, 0, none⟩)]) rfl trivial
    (enters_of Tryd.func51 (by kernel_rfl) rfl) (L := [w.heap.size + 4]) (by intro k hk; simp at hk; omega)
    (lines_seq 4 (w.heap.size + 4) s w1 hs (by omega) r4) (fun _ => rfl)
    (fun X pre W => Hid (∀ rest, pre.map toL ++ rest = T → parseE 0 T = parseE pre.length rest) ∧ pre.length ≤ 16 ∧ ∃ v rs, PI w X v rs W ∧ Hid (rulesL rs = (pre.map toL).map oneR) ∧ Hid (∀ (k : Nat) (r : Bool × ByteArray), rs[k]? = some r → r.2.size ≤ s.size))
    (fun X c pre W => c = .ret ∧ Hid (E ≠ 0) ∧ W.heap[w.heap.size]? = some (.cells #[.slice none 0 0] 22 (0, 0)) ∧ W.heap[w.heap.size + 1]? = some (.cells #[.int .i64 (N : Nat)] 3 (0, 0)) ∧ W.heap[w.heap.size + 1 + 1]? = some (.cells #[.int .i64 (E : Nat)] 25 (0, 0)) ∧ Below w.heap.size w W)
    ?hI ?hIx (fun X hX => ⟨hide (fun rest h => by rw [← h]; rfl), Nat.zero_le _, _, [], HPI0.out X, hide rfl, hide (fun k r h => by simp at h)⟩)
    (fun x => { tmps := #[.string s, undef, .pointer (some ⟨w.heap.size, 0, none⟩), .pointer (some ⟨w.heap.size + 1, 0, none⟩), .pointer (some ⟨w.heap.size + 1 + 1, 0, none⟩), .pointer (some ⟨w.heap.size + 1 + 1 + 1, 0, none⟩), .string x, undef, undef, .string s,
      .func (.func 51) #[] #[.pointer (some ⟨w.heap.size + 4, 0, none⟩)], .string x, undef, undef, undef, undef, undef, undef, undef, undef, undef, undef, undef, undef, undef, undef, undef, undef, undef, undef, undef], defers := [] }) ?assign ?body ?done ?stop
  case hI =>
    rintro X hX pre A B row ⟨h1, h2, v, rs, h3, h4, h5⟩ hg hr
    refine ⟨h1, h2, v, rs, h3.grown hg (fun r e => ?_), h4, h5⟩
    rcases hr r e with h | h
    · simp at h; omega
    · omega
  case hIx =>
    rintro X c hX pre A B row ⟨h1, h2, h3, h4, h5, h6⟩ hg hr
    have ne : ∀ k, k < w.heap.size + 4 → ¬ row = some k := fun k hk e => by
      rcases hr k e with h | h
      · simp at h; omega
      · omega
    have keep : ∀ (k : Nat) (o : Obj), k < w.heap.size + 4 → A.heap[k]? = some o → B.heap[k]? = some o := fun k o hk ho => (hg.block k (Array.getElem?_eq_some_iff.1 ho).1 (fun e => ne k hk e.symm)).trans ho
    exact ⟨h1, h2, keep _ _ (by omega) h3, keep _ _ (by omega) h4, keep _ _ (by omega) h5, h6.grown hg h6.size (fun k e => Nat.le_of_not_lt (fun hk => ne k (by omega) e))⟩
  case assign =>
    intro l x W K hK
    gi_wp2
    exact hK
  case body =>
    rintro X ll pre x W hX hXW ⟨hP, hlen, v, rs, hPI, hRs, hFs⟩ hpre
    rw [List.map_append] at hpre
    obtain ⟨rest, hrest⟩ := hpre
    rw [← HT.out] at hrest
    have hx : x.size ≤ s.size := by
      have h := HMem.out (toL x) (by rw [← hrest]; simp)
      rw [size_toL] at h; exact h
    have hPx := hP.out (toL x :: rest) (by rw [← hrest]; simp)
    have hrl := rules_len hRs.out
    rw [List.length_map] at hrl
    have HRL := hide hrl
    rw [HNE.out] at hPx
    have HOne := hide (one_any x W (by omega))
    have HX := hide hx
    have HPx := hide hPx
    have HRest := hide hrest
    have hxs : w.heap.size + 7 ≤ X := by omega
    have hsz1' := hide hsz1
    clear hrest hPx hx hsz1 hX
    gi_wp2_with fail
    refine ⟨trivial, (CallsIn.inRound ll (callsIn_wide.2 HOne.out)).mono ?_⟩
    rintro e w2 ⟨kp, pat, rfl, hok, hb2⟩
    obtain ⟨e1, he1⟩ : ∃ e1, e1 = oneE (toL x) := ⟨_, rfl⟩
    rw [← he1] at hok ⊢
    have HOK := hide hok
    have HE1 := hide he1
    have hPI2 := hPI.step hb2
    have hW2 : X ≤ w2.heap.size := Nat.le_trans hXW hb2.size
    have c3 : w2.cell? ⟨w.heap.size + 1 + 1 + 1, 0, none⟩ = some v := cell_of_row _ _ _ _ _ _ hPI2.b3
    obtain ⟨A, c, rfl⟩ := ownsRow_slice hPI2.own
    clear hok he1 hPI hP HOne
    have hk16 : rs.length ≤ 16 := by have := HRL.out; omega
    obtain ⟨W3, hW3⟩ : ∃ W3, W3 = w2.alloc (.cells #[.bool kp, .string pat] 28) := ⟨_, rfl⟩
    have hPI3 : PI w X (.slice A rs.length c) rs W3 := by rw [hW3]; exact hPI2.step ((Below.refl _ _).alloc (Nat.le_refl _) _)
    have hB23 : Below W.heap.size W W3 := by rw [hW3]; exact hb2.alloc hb2.size _
    have hni : ∀ k, k < w.heap.size + 4 → ¬ Its [w.heap.size + 4] w1.heap.size X k := fun k hk h => by
      have := hsz1'.out
      rcases h with h | h
      · simp at h; omega
      · omega
    have hL3 : Lies (Its [w.heap.size + 4] w1.heap.size X) W W3 := ⟨hB23.size, fun k hk => hB23.block k (by
      have := hsz1'.out
      rcases hk with hk | hk
      · simp at hk; omega
      · omega)⟩
    have HFin := hide (show ∀ a b c, Lies (Its [w.heap.size + 4] w1.heap.size X) W (((W3.setCell ⟨w.heap.size, 0, none⟩ a).setCell ⟨w.heap.size + 1, 0, none⟩ b).setCell ⟨w.heap.size + 1 + 1, 0, none⟩ c).drew ∧ BadRows w a b c (((W3.setCell ⟨w.heap.size, 0, none⟩ a).setCell ⟨w.heap.size + 1, 0, none⟩ b).setCell ⟨w.heap.size + 1 + 1, 0, none⟩ c).drew from
      fun a b c => ⟨lies_drew (lies_set (lies_set (lies_set hL3 _ _ _ (hni _ (by omega))) _ _ _ (hni _ (by omega))) _ _ _ (hni _ (by omega))), (hPI3.bad a b c).drew⟩)
    have c3' : W3.cell? ⟨w.heap.size + 1 + 1 + 1, 0, none⟩ = some (.slice A rs.length c) := cell_of_row _ _ _ _ _ _ hPI3.b3
    have s0 : W3.cell? ⟨w.heap.size, 0, none⟩ = some (.slice none 0 0) := cell_of_row _ _ _ _ _ _ hPI3.b0
    have s1 : W3.cell? ⟨w.heap.size + 1, 0, none⟩ = some (.int .i64 0) := cell_of_row _ _ _ _ _ _ hPI3.b1
    have s2 : W3.cell? ⟨w.heap.size + 1 + 1, 0, none⟩ = some (.int .i64 0) := cell_of_row _ _ _ _ _ _ hPI3.b2
    have f0 : W3.frozen? ⟨w.heap.size, 0, none⟩ = false := frozen_of_row _ _ _ _ _ hPI3.b0
    have f1 : W3.frozen? ⟨w.heap.size + 1, 0, none⟩ = false := frozen_of_row _ _ _ _ _ hPI3.b1
    have f2 : W3.frozen? ⟨w.heap.size + 1 + 1, 0, none⟩ = false := frozen_of_row _ _ _ _ _ hPI3.b2
    have f3 : W3.frozen? ⟨w.heap.size + 1 + 1 + 1, 0, none⟩ = false := frozen_of_row _ _ _ _ _ hPI3.b3
    have HPI3 := hide hPI3
    have HL3 := hide hL3
    have HW3 := hide hW3
    have hmx : Tryd.prog.follows .mixedOrders = true := by kernel_rfl
    clear c3 hPI2 hPI3 hrl hL3 hB23
    rw [hW3] at c3' s0 s1 s2 f0 f1 f2 f3 HFin
    by_cases k16 : rs.length = 16
    · have hp2 := HPx.out
      have hrl := HRL.out
      rw [parse_full (by omega)] at hp2
      have hN := hide (show N = 17 by have := congrArg Prod.fst hp2; simp at this; omega)
      have hE := hide (congrArg Prod.snd hp2)
      have k16i : (rs.length : Int) = 16 := by omega
      clear hp2 k16 hW3 hrl
      gi_wp2_with fail
      gi_region_with_o (fail)
      all_goals
        gi_wp2_with fail
        obtain ⟨q1, q2⟩ := HFin.out (.slice none 0 0) (.int .i64 17) (.int .i64 5)
        refine ⟨q1, rfl, hide (by rw [hE.out]; decide), q2.1, ?_, ?_, q2.2.2.2⟩
        · rw [hN.out]; exact q2.2.1
        · rw [hE.out]; exact q2.2.2.1
    · by_cases he : e1 = 0
      · subst he
        have hrl := HRL.out
        have k16i : ((rs.length : Int) == 16) = false := by rw [beq_eq_false_iff_ne]; omega
        have hrl2 : rs.length < 16 := by omega
        have hW2X : X ≤ W3.heap.size := by rw [hW3]; simp; omega
        have hni2 : ∀ k, Its [w.heap.size + 4] w1.heap.size X k → k < X ∧ k ≠ w.heap.size + 1 + 1 + 1 := fun k hk => by
          have := hsz1'.out
          rcases hk with h | h
          · simp at h; omega
          · omega
        have HMore := hide (fun (v' : Value) (w' : World) (O : Obj) => HPI3.out.more (v' := v') (w' := w') (kp := kp) (pat := pat) O hxs hW2X)
        have hOwn := HPI3.out.own
        have HL4 := hide HL3.out
        rw [hW3] at hOwn HMore HL4
        have HNI := hide hni2
        obtain ⟨ok1, ok2⟩ := HOK.out rfl
        have HO1 := hide ok1
        have HO2 := hide ok2
        clear hrl k16 hW3 ok1 ok2 hni2 hni
        gi_wp2_with (gi_at_builtin; refine wpListIn_append_own _ rfl _ _ 22 rfl X 28 i0 _ 2 24 Tryd.underlying22 hi hz0 hz1 hz2 rfl (by decide) _ _ _ rfl (hOwn.alloc _) ⟨w2.heap.size + 1, 0, none⟩ 1 1 [.bool kp, .string pat] rfl rfl (cells_new2 _ _ _ _ _) (by simp [Value.oneCell']) (by unfold maxLen; omega) (by omega) (by simp; omega) ?_)
        intro v' w' hO' hg hnil
        obtain ⟨m1, m2, m3⟩ := HMore.out _ _ _ hO' hg
        obtain ⟨g', cap', rfl⟩ := ownsRow_succ hO'
        have y0 : w'.cell? ⟨w.heap.size + 1 + 1 + 1, 0, none⟩ = some (.slice A rs.length c) := cell_of_row _ _ _ _ _ _ m1
        have y1 : w'.frozen? ⟨w.heap.size + 1 + 1 + 1, 0, none⟩ = false := frozen_of_row _ _ _ _ _ m1
        have M2 := hide m2
        have M3 := hide (m3 _ _ HNI.out HL4.out)
        clear m1 m2 m3 hO' hg hnil HMore hOwn c3' s0 s1 s2 f0 f1 f2 f3
        gi_wp2_with fail
        have hrl := HRL.out
        have hnl : (pre ++ [x]).length = pre.length + 1 := by simp
        refine ⟨M3.out, hide (fun rest2 h2 => ?_), by rw [hnl]; omega, _, _, M2.out, hide ?_, hide (fun k r hk => ?_)⟩
        · have h3 : rest2 = rest := by
            have h4 := h2.trans HRest.out.symm
            rw [List.map_append] at h4
            exact List.append_cancel_left h4
          have h5 := HPx.out
          rw [parse_good (by omega) HE1.out.symm] at h5
          rw [HNE.out, h5, h3, hnl]
        · rw [rulesL_snoc, hRs.out, List.map_append, List.map_append]
          congr 1
          show [(kp, toL pat)] = [oneR (toL x)]
          rw [HO1.out]
        · rcases Nat.lt_or_ge k rs.length with hkk | hkk
          · rw [List.getElem?_append_left hkk] at hk
            exact hFs.out k r hk
          · rw [List.getElem?_append_right hkk] at hk
            have h0 : k - rs.length = 0 := by
              have := (List.getElem?_eq_some_iff.1 hk).1
              simp at this
              omega
            rw [h0] at hk
            simp at hk
            subst hk
            have := HO2.out
            have := HX.out
            show pat.size ≤ s.size
            omega
      · have hp2 := HPx.out
        have hrl := HRL.out
        rw [parse_bad (by omega) (by rw [← HE1.out]; exact he), ← HE1.out] at hp2
        have hN := hide (show N = rs.length + 1 by have := congrArg Prod.fst hp2; simp at this; omega)
        have hE := hide (show E = e1 from congrArg Prod.snd hp2)
        have HE0 := hide he
        have hk1 : ((e1 : Int) == 0) = false := by rw [beq_eq_false_iff_ne]; omega
        have hk2 : ((e1 : Int) != 0) = true := by rw [bne, hk1]; rfl
        have k16i : ((rs.length : Int) == 16) = false := by rw [beq_eq_false_iff_ne]; omega
        have n1 : IntKind.i64.wrap ((rs.length : Int) + 1) = ((rs.length + 1 : Nat) : Int) := by rw [IntWalk.i64_in _ (by omega)]; rfl
        clear hp2 k16 hW3 hrl he
        gi_wp2_with fail
        gi_region_with_o (fail)
        all_goals
          gi_wp2_with fail
          obtain ⟨q1, q2⟩ := HFin.out (.slice none 0 0) (.int .i64 ((rs.length + 1 : Nat) : Int)) (.int .i64 (e1 : Nat))
          refine ⟨q1, rfl, hide (by rw [hE.out]; exact HE0.out), q2.1, ?_, ?_, q2.2.2.2⟩
          · rw [hN.out]; exact q2.2.1
          · rw [hE.out]; exact q2.2.2.1
  case done =>
    rintro X D xs W hX hD hDX hS ⟨hP, hlen, v, rs, hPI, hRs, hFs⟩ hK
    rw [← HT.out] at hS
    have hp2 := hP.out [] (by rw [hS]; simp)
    rw [HNE.out] at hp2
    have HP2 := hide (show (N, E) = ((0, 0) : Nat × Nat) from hp2)
    have hrl := rules_len hRs.out
    rw [List.length_map] at hrl
    have HL := hide (show rs.length ≤ 16 by omega)
    have HRs := hide (show rulesL rs = T.map oneR by rw [hRs.out, hS])
    obtain ⟨A, c, rfl⟩ := ownsRow_slice hPI.own
    have c3' : W.cell? ⟨w.heap.size + 1 + 1 + 1, 0, none⟩ = some (.slice A rs.length c) := cell_of_row _ _ _ _ _ _ hPI.b3
    have s0 : W.cell? ⟨w.heap.size, 0, none⟩ = some (.slice none 0 0) := cell_of_row _ _ _ _ _ _ hPI.b0
    have s1 : W.cell? ⟨w.heap.size + 1, 0, none⟩ = some (.int .i64 0) := cell_of_row _ _ _ _ _ _ hPI.b1
    have s2 : W.cell? ⟨w.heap.size + 1 + 1, 0, none⟩ = some (.int .i64 0) := cell_of_row _ _ _ _ _ _ hPI.b2
    have f0 : W.frozen? ⟨w.heap.size, 0, none⟩ = false := frozen_of_row _ _ _ _ _ hPI.b0
    have f1 : W.frozen? ⟨w.heap.size + 1, 0, none⟩ = false := frozen_of_row _ _ _ _ _ hPI.b1
    have f2 : W.frozen? ⟨w.heap.size + 1 + 1, 0, none⟩ = false := frozen_of_row _ _ _ _ _ hPI.b2
    have HPI := hide hPI
    have hsz1' := hide hsz1
    clear hP hp2 hS hRs hrl hPI hsz1
    gi_wp2_with fail
    obtain ⟨b0, b1, b2, b3⟩ := HPI.out.bad (.slice A rs.length c) (.int .i64 0) (.int .i64 0)
    have hown4 := ownsRow_setCell_below (ownsRow_setCell_below (ownsRow_setCell_below HPI.out.own (a := ⟨w.heap.size, 0, none⟩) (by show w.heap.size < X; have := hsz1'.out; omega) (.slice A rs.length c)) (a := ⟨w.heap.size + 1, 0, none⟩) (by show w.heap.size + 1 < X; have := hsz1'.out; omega) (.int .i64 0)) (a := ⟨w.heap.size + 1 + 1, 0, none⟩) (by show w.heap.size + 1 + 1 < X; have := hsz1'.out; omega) (.int .i64 0)
    have hzz := hsz1'.out
    have hK' : (((W.setCell ⟨w.heap.size, 0, none⟩ (.slice A rs.length c)).setCell ⟨w.heap.size + 1, 0, none⟩ (.int .i64 0)).setCell ⟨w.heap.size + 1 + 1, 0, none⟩ (.int .i64 0)).heap[D]? = some (.deferred (some [])) :=
      (heap_setCell_other _ _ _ _ (by simp; omega)).trans ((heap_setCell_other _ _ _ _ (by simp; omega)).trans ((heap_setCell_other _ _ _ _ (by simp; omega)).trans hK))
    generalize ((W.setCell ⟨w.heap.size, 0, none⟩ (.slice A rs.length c)).setCell ⟨w.heap.size + 1, 0, none⟩ (.int .i64 0)).setCell ⟨w.heap.size + 1 + 1, 0, none⟩ (.int .i64 0) = W4 at b0 b1 b2 b3 hown4 hK' ⊢
    refine ⟨by simp, .inl ⟨_, _, rfl, run_takeDeferred hK', ?_⟩⟩
    have q0 : (W4.putObj D (.deferred none)).cell? ⟨w.heap.size, 0, none⟩ = some (.slice A rs.length c) := cell_of_row _ _ _ _ _ _ ((World.putObj_heap_other (by omega)).trans b0)
    have q1 : (W4.putObj D (.deferred none)).cell? ⟨w.heap.size + 1, 0, none⟩ = some (.int .i64 0) := cell_of_row _ _ _ _ _ _ ((World.putObj_heap_other (by omega)).trans b1)
    have q2 : (W4.putObj D (.deferred none)).cell? ⟨w.heap.size + 1 + 1, 0, none⟩ = some (.int .i64 0) := cell_of_row _ _ _ _ _ _ ((World.putObj_heap_other (by omega)).trans b2)
    have hown5 := hown4.kept (grownBy_putObj' W4 D (.deferred none)) (by
      cases ho : (Value.slice A rs.length c).ownBlock with
      | none => exact .inl rfl
      | some k =>
        right
        intro e
        have h1 := (hown4.lt k ho).1
        injection e with e
        omega)
    refine ⟨.tuple #[.slice A rs.length c, .int .i64 0, .int .i64 0], ?_, HGoodP.out _ _ A rs c (b3.grown (grownBy_putObj' _ D (.deferred none)) b3.size (fun r e => by cases e; omega)) HP2.out rfl HRs.out (RdR.own hown5) hFs.out HL.out⟩
    simp [results, Tryd.f21, go_sem, q0, q1, q2]
  case stop =>
    rintro X D c pre W hX hD hDX hS ⟨rfl, hE0, h3, h4, h5, h6⟩ hK
    gi_wp2_with fail
    refine ⟨by simp, .inl ⟨_, _, rfl, run_takeDeferred hK, ?_⟩⟩
    have q0 : (W.putObj D (.deferred none)).cell? ⟨w.heap.size, 0, none⟩ = some (.slice none 0 0) := cell_of_row _ _ _ _ _ _ ((World.putObj_heap_other (by omega)).trans h3)
    have q1 : (W.putObj D (.deferred none)).cell? ⟨w.heap.size + 1, 0, none⟩ = some (.int .i64 (N : Nat)) := cell_of_row _ _ _ _ _ _ ((World.putObj_heap_other (by omega)).trans h4)
    have q2 : (W.putObj D (.deferred none)).cell? ⟨w.heap.size + 1 + 1, 0, none⟩ = some (.int .i64 (E : Nat)) := cell_of_row _ _ _ _ _ _ ((World.putObj_heap_other (by omega)).trans h5)
    refine ⟨.tuple #[.slice none 0 0, .int .i64 (N : Nat), .int .i64 (E : Nat)], ?_, HBadP.out _ _ (h6.grown (grownBy_putObj' _ D (.deferred none)) h6.size (fun r e => by cases e; omega)) hE0.out rfl⟩
    simp [results, Tryd.f21, go_sem, q0, q1, q2]
end Go.Proofs.YthlalmehcpionaaDoor
