/-
  The reference's Left.
-/
import Derived.Test.YteoafohebgfjdaaGreatDoorAutoCutB
import Derived.Lib.QuietBelow
import Derived.BigQuiet
namespace Go.Proofs.YteoafohebgfjdaaGreatDoor
open Go.RowKit
set_option maxRecDepth 100000

/-- Another one, beneath a directory, that is shut out. -/
def coverB (R : List (Bool × List UInt8)) (n m : Nd) : Bool := (n.kind == 1) && ((!(m.path.toList == n.path.toList)) && (withinB (toL m.path) (toL n.path) && shutN R m))
def stayB (R : List (Bool × List UInt8)) (sub : List Nd) (n : Nd) : Bool := shutN R n || sub.any (coverB R n)
def leftR (R : List (Bool × List UInt8)) (del : Bool) (p : ByteArray) (d : List Nd) : List Nd :=
  if atL p d < 0 then [] else if p.toList.isEmpty = true then [] else if del = false then sideL p true d else (sideL p true d).filter (stayB R (sideL p true d))
theorem stay_drop (g : Nd → Bool) (l : List Nd) (i : Nat) (n : Nd) (h : l[i]? = some n) : (l.drop i).filter g = (if g n = true then [n] else []) ++ (l.drop (i + 1)).filter g := by
  obtain ⟨hi, rfl⟩ := List.getElem?_eq_some_iff.1 h
  rw [List.drop_eq_getElem_cons hi, List.filter_cons]
  cases g l[i] <;> rfl
theorem any_drop (g : Nd → Bool) (l : List Nd) (i : Nat) (n : Nd) (h : l[i]? = some n) : (l.drop i).any g = (g n || (l.drop (i + 1)).any g) := by
  obtain ⟨hi, rfl⟩ := List.getElem?_eq_some_iff.1 h
  rw [List.drop_eq_getElem_cons hi, List.any_cons]

set_option maxHeartbeats 32000000 in
theorem refLeft_any (A : Option Addr) (l : List Nd) (c : Nat) (C : Option Addr) (R : List (Bool × ByteArray)) (f : Nat) (del : Bool) (p : ByteArray) (w : World) (hA : RdN w w.heap.size A l) (hf : FewN l) (hl : (l.length : Int) ≤ 1000) (hR : RdR w w.heap.size C R) (hfr : Few R) (hlr : (R.length : Int) ≤ 1000000) (hp : (p.size : Int) ≤ 1000000) :
    Calls Tryz.prog 11 #[.slice A l.length c, .slice C R.length f, .bool del, .string p] w fun e w' => ∃ v, e = .returned v ∧ NI w v (leftR (rulesL R) del p l) w' := by
  obtain ⟨i0, hi, hz0, hz1, hz2⟩ := info_parts info_node
  obtain ⟨V, hV⟩ : ∃ V, V = leftR (rulesL R) del p l := ⟨_, rfl⟩
  rw [← hV]
  unfold leftR at hV
  have HAt := hide (refAt_any A l c p w hA (by omega))
  have HSide := hide (fun (W : World) (hb : Below w.heap.size w W) => refSide_any A l c p true W (hA.step hb) hf hl hp)
  have HSh := hide (fun (n : Nd) (W : World) (hb : Below w.heap.size w W) (hp : (n.path.size : Int) ≤ 1000000) => refShutN_any C R f n W (hR.step hb) hfr hlr hp)
  have HFs := hide (show FewN (sideL p true l) from fun k n hn => by
    obtain ⟨j, hj⟩ := List.mem_iff_getElem?.1 (List.mem_filter.1 (List.mem_of_getElem? hn)).1
    exact hf j n hj)
  have hll : (sideL p true l).length ≤ l.length := List.length_filter_le _ _
  clear hA hf hR hfr
  generalize atL p l = z at HAt hV
  generalize sideL p true l = sub at HSide HFs hll hV
  go_enter Tryz.func11, Tryz.ntmps11
  by_cases hz : z < 0
  · rw [if_pos hz] at hV
    have HV := hide hV
    clear hV
    go_wp2_with fail
    refine HAt.out.mono ?_
    rintro e w1 ⟨rfl, hb1⟩
    go_wp2_with fail
    exact bodyPost_ret (results_tmp rfl _ _ _) rfl ⟨.slice none 0 0, rfl, hb1, by rw [HV.out]; exact World.ownsRow_nil _ _ _ _⟩
  rw [if_neg hz] at hV
  cases he : p.toList.isEmpty with
  | true =>
    rw [if_pos he] at hV
    have HV := hide hV
    clear hV
    go_wp2_with fail
    refine HAt.out.mono ?_
    rintro e w1 ⟨rfl, hb1⟩
    go_wp2_with fail
    exact bodyPost_ret (results_tmp rfl _ _ _) rfl ⟨.slice none 0 0, rfl, hb1, by rw [HV.out]; exact World.ownsRow_nil _ _ _ _⟩
  | false =>
    rw [if_neg (by rw [he]; decide)] at hV
    cases del with
    | false =>
      rw [if_pos rfl] at hV
      have HV := hide hV
      clear hV
      go_wp2_with fail
      refine HAt.out.mono ?_
      rintro e w1 ⟨rfl, hb1⟩
      have HS1 := hide (HSide.out w1 hb1)
      go_wp2_with fail
      refine HS1.out.mono ?_
      rintro e w2 ⟨v, rfl, hN⟩
      have HN := hide (show NI w v V w2 by rw [HV.out]; exact ⟨hb1.trans (hN.below.mono hb1.size), ownsRow_lowerN hN.own hb1.size⟩)
      clear hN hb1 HV
      go_wp2_with fail
      exact bodyPost_ret (results_tmp rfl _ _ _) rfl ⟨v, rfl, HN.out⟩
    | true =>
      rw [if_neg (by decide)] at hV
      have HQ0 := hide (show [] ++ (sub.drop 0).filter (stayB (rulesL R) sub) = V by rw [hV]; rfl)
      clear hV
      go_wp2_with fail
      refine HAt.out.mono ?_
      rintro e w1 ⟨rfl, hb1⟩
      have HS1 := hide (HSide.out w1 hb1)
      go_wp2_with fail
      refine HS1.out.mono ?_
      rintro e w2 ⟨v, rfl, hN⟩
      obtain ⟨X, x, rfl⟩ := ownsRow_slice hN.own
      have HB := hide (hb1.trans (hN.below.mono hb1.size))
      have HA := hide (RdN.own hN.own)
      clear hN hb1 HS1 HSide HAt
      go_wp2_with fail
      obtain ⟨W0, rfl⟩ : ∃ W0, W0 = w2 := ⟨_, rfl⟩
      go_loopg [11, 12] sub.length (fun gk ov iv wr => ∃ (j : Nat) (E : Option Addr) (e0 : Nat) (o : List Nd), ov = .slice E o.length e0 ∧ iv = .int .i64 j ∧ j + gk = sub.length ∧ o.length ≤ j ∧ Hid (NI W0 (.slice E o.length e0) o wr) ∧ Hid (o ++ (sub.drop j).filter (stayB (rulesL R) sub) = V))
      case atStart => exact ⟨0, none, 0, [], rfl, rfl, by omega, by simp, hide ⟨Below.refl _ _, World.ownsRow_nil _ _ _ _⟩, HQ0⟩
      case round =>
        obtain ⟨j, E, e0, o, rfl, rfl, hjg, hoj, HO, HQ⟩ := hrel
        clear HQ0
        cases gk with
        | zero =>
          have hE : V = o := by rw [← HQ.out, List.drop_of_length_le (by omega)]; simp
          have HFin := hide (show NI w (.slice E o.length e0) V wr by rw [hE]; exact ⟨HB.out.trans (HO.out.below.mono HB.out.size), ownsRow_lowerN HO.out.own HB.out.size⟩)
          obtain rfl : j = sub.length := by omega
          clear hE HQ HO
          go_wp2_with fail
          exact bodyPost_ret (results_tmp rfl _ _ _) rfl ⟨.slice E o.length e0, rfl, HFin.out⟩
        | succ g1 =>
          obtain ⟨wo, rfl⟩ : ∃ wo, wo = wr := ⟨_, rfl⟩
          have hji : (j : Int) < sub.length := by omega
          have hj0 : (0 : Int) ≤ (j : Int) := by omega
          obtain ⟨n, hn⟩ : ∃ n, sub[j]? = some n := ⟨_, List.getElem?_eq_getElem (by omega)⟩
          have HAr := hide (HA.out.step HO.out.below)
          obtain ⟨ad, rfl, hlt, hnd⟩ := HAr.out j n hn
          have HND := hide (fun W (hb : Below wo.heap.size wo W) => hnd.below hb (by rw [add_block]; exact hlt))
          have hfew := HFs.out j n hn
          have hd := HQ.out
          rw [stay_drop (stayB (rulesL R) sub) sub j n hn] at hd
          obtain ⟨SS, hSS⟩ : ∃ SS, SS = stayB (rulesL R) sub n := ⟨_, rfl⟩
          have hQ : (shutN (rulesL R) n || (sub.drop 0).any (coverB (rulesL R) n)) = SS := hSS.symm
          rw [← hSS] at hd
          have hjw : IntKind.i64.wrap ((j : Int) + 1) = ((j + 1 : Nat) : Int) := by rw [IntWalk.i64_in _ (by omega)]; rfl
          have HSn := hide (HSh.out n wo (HB.out.trans (HO.out.below.mono HB.out.size)) hfew.1)
          have HFn := hide hfew.1
          have HCv : Hid (∀ m, coverB (rulesL R) n m = ((n.kind == 1) && ((!(m.path.toList == n.path.toList)) && (withinB (toL m.path) (toL n.path) && shutN (rulesL R) m)))) := hide (fun _ => rfl)
          generalize shutN (rulesL R) n = z1 at HSn hQ
          generalize coverB (rulesL R) n = cv at hQ HCv
          obtain ⟨c0, c1, c2, c3, c4⟩ := hnd
          obtain ⟨path, kind, mode, time, data⟩ := n
          simp only [Nd.cells] at c0 c1 c2 c3 c4 HSn HCv HFn
          have HD0 := hide hd
          have HQ1 := hide hQ
          clear HQ hn hfew hlt hSS hd hQ
          go_wp2_with fail
          refine HSn.out.mono ?_
          rintro e w3 ⟨rfl, hb3⟩
          have HB3 := hide hb3
          clear HSn hb3 c0 c1 c2 c3 c4
          go_wp2_with fail
          go_loopg [13, 14] sub.length (fun gk sv mv wx => ∃ (m : Nat) (st : Bool), sv = .bool st ∧ mv = .int .i64 m ∧ m + gk = sub.length ∧ Hid (Below w3.heap.size w3 wx) ∧ Hid ((st || (sub.drop m).any cv) = SS))
          case atStart => exact ⟨0, z1, rfl, rfl, by omega, hide (Below.refl _ _), HQ1⟩
          case round =>
            obtain ⟨m, st, rfl, rfl, hmg, HBx, HS⟩ := hrel
            clear HQ1
            have hd := HD0.out
            have hB3 := HB3.out
            have hQ := HS.out
            cases gk with
            | zero =>
              rw [List.drop_of_length_le (by omega), List.any_nil, Bool.or_false] at hQ
              have HSS := hide hQ.symm
              obtain rfl : m = sub.length := by omega
              cases st with
              | false =>
                clear hQ
                rw [if_neg (by rw [HSS.out]; decide), List.nil_append] at hd
                have HD := hide hd
                clear hd
                go_wp2_with fail
                have HO9 := hide (HO.out.step (hB3.trans (HBx.out.mono hB3.size)))
                go_roundg g1
                case rel => exact ⟨j + 1, E, e0, o, rfl, rfl, by omega, by omega, HO9, HD⟩
                case measure => omega
              | true =>
                clear hQ
                rw [if_pos (by rw [HSS.out]), ← List.append_assoc] at hd
                have HD := hide hd
                clear hd
                have hb5 := hB3.trans (HBx.out.mono hB3.size)
                obtain ⟨m0, m1, m2, m3, m4⟩ := HND.out wr hb5
                simp only at m0 m1 m2 m3 m4
                have hN3 := HO.out.step hb5
                have hO3 := hN3.own
                have hRn := RdN.one wr ⟨path, kind, mode, time, data⟩ 36
                have hB4 := hN3.below.alloc hN3.below.size (.cells (Nd.cells ⟨path, kind, mode, time, data⟩) 36)
                have hsz := hB4.size
                clear hb5 hN3
                go_wp2_with (at_builtin; go_loud (refine wpList_append_nodes rfl _ _ 22 rfl W0.heap.size 36 i0 Tryz.underlying22 hi hz0 hz1 hz2 _ _ _ rfl (hO3.alloc _) (some ⟨wr.heap.size, 0, none⟩) _ 1 _ [⟨path, kind, mode, time, data⟩] rfl rfl hRn (by unfold maxLen; omega) (by omega) hsz ?_))
                intro v5 w5 hO5 hg5
                have hB5 := hB4.grown hg5 hB4.size (fun r e => (hO3.lt r e).1)
                obtain ⟨D, g, rfl⟩ := ownsRow_slice hO5
                have hlen6 : (o ++ [(⟨path, kind, mode, time, data⟩ : Nd)]).length = o.length + 1 := by simp
                have HO6 := hide (show NI W0 (.slice D (o.length + 1) g) (o ++ [⟨path, kind, mode, time, data⟩]) w5 from ⟨hB5, by rw [cellsN_app, hlen6]; exact hO5⟩)
                clear hO3 hRn hB4 hO5 hg5 hB5 hsz m0 m1 m2 m3 m4
                go_wp2_with fail
                go_roundg g1
                case rel => exact ⟨j + 1, D, g, o ++ [⟨path, kind, mode, time, data⟩], by rw [hlen6], rfl, by omega, by rw [hlen6]; omega, by rw [hlen6]; exact HO6, HD⟩
                case measure => omega
            | succ g2 =>
              have hmi : (m : Int) < sub.length := by omega
              have hm0 : (0 : Int) ≤ (m : Int) := by omega
              have hmw : IntKind.i64.wrap ((m : Int) + 1) = ((m + 1 : Nat) : Int) := by rw [IntWalk.i64_in _ (by omega)]; rfl
              cases st with
              | true =>
                rw [Bool.true_or] at hQ
                have HSS := hide hQ.symm
                clear hQ
                rw [if_pos (by rw [HSS.out]), ← List.append_assoc] at hd
                have HD := hide hd
                clear hd
                have hb5 := hB3.trans (HBx.out.mono hB3.size)
                obtain ⟨m0, m1, m2, m3, m4⟩ := HND.out wr hb5
                simp only at m0 m1 m2 m3 m4
                have hN3 := HO.out.step hb5
                have hO3 := hN3.own
                have hRn := RdN.one wr ⟨path, kind, mode, time, data⟩ 36
                have hB4 := hN3.below.alloc hN3.below.size (.cells (Nd.cells ⟨path, kind, mode, time, data⟩) 36)
                have hsz := hB4.size
                clear hb5 hN3
                go_wp2_with (at_builtin; go_loud (refine wpList_append_nodes rfl _ _ 22 rfl W0.heap.size 36 i0 Tryz.underlying22 hi hz0 hz1 hz2 _ _ _ rfl (hO3.alloc _) (some ⟨wr.heap.size, 0, none⟩) _ 1 _ [⟨path, kind, mode, time, data⟩] rfl rfl hRn (by unfold maxLen; omega) (by omega) hsz ?_))
                intro v5 w5 hO5 hg5
                have hB5 := hB4.grown hg5 hB4.size (fun r e => (hO3.lt r e).1)
                obtain ⟨D, g, rfl⟩ := ownsRow_slice hO5
                have hlen6 : (o ++ [(⟨path, kind, mode, time, data⟩ : Nd)]).length = o.length + 1 := by simp
                have HO6 := hide (show NI W0 (.slice D (o.length + 1) g) (o ++ [⟨path, kind, mode, time, data⟩]) w5 from ⟨hB5, by rw [cellsN_app, hlen6]; exact hO5⟩)
                clear hO3 hRn hB4 hO5 hg5 hB5 hsz m0 m1 m2 m3 m4
                go_wp2_with fail
                go_roundg g1
                case rel => exact ⟨j + 1, D, g, o ++ [⟨path, kind, mode, time, data⟩], by rw [hlen6], rfl, by omega, by rw [hlen6]; omega, by rw [hlen6]; exact HO6, HD⟩
                case measure => omega
              | false =>
                rw [Bool.false_or] at hQ
                obtain ⟨y, hy⟩ : ∃ y, sub[m]? = some y := ⟨_, List.getElem?_eq_getElem (by omega)⟩
                rw [any_drop cv sub m y hy, HCv.out y] at hQ
                have hbx := hB3.trans (HBx.out.mono hB3.size)
                have HND2 := HND.out wr hbx
                obtain ⟨ae, hae, hlt2, hyd⟩ := (HAr.out.step hbx) m y hy
                injection hae with hae
                subst hae
                have hfy := HFs.out m y hy
                have HWi := hide (fun W => refWithin_any y.path path W hfy.1 HFn.out)
                have HSy := hide (fun W (hb : Below wr.heap.size wr W) => HSh.out y W (HB.out.trans ((HO.out.below.trans ((hbx.trans (hb.mono hbx.size)).mono HO.out.below.size)).mono HB.out.size)) hfy.1)
                generalize withinB (toL y.path) (toL path) = wi at HWi hQ
                generalize shutN (rulesL R) y = sy at HSy hQ
                have HSt := hide hd
                obtain ⟨c0, c1, c2, c3, c4⟩ := HND2
                obtain ⟨e0', e1, e2, e3, e4⟩ := hyd
                obtain ⟨ypath, ykind, ymode, ytime, ydata⟩ := y
                simp only [Nd.cells] at c0 c1 c2 c3 c4 e0' e1 e2 e3 e4 HWi HSy hQ
                have f0 := fun d os => cell_regrown c0 d os
                have f1 := fun d os => cell_regrown c1 d os
                have q0 := fun d os => cell_regrown e0' d os
                have q1 := fun d os => cell_regrown e1 d os
                have q2 := fun d os => cell_regrown e2 d os
                have q3 := fun d os => cell_regrown e3 d os
                have q4 := fun d os => cell_regrown e4 d os
                clear hfy hy hlt2 hbx hB3 hd c0 c1 c2 c3 c4 e0' e1 e2 e3 e4
                have cW := fun d os => Calls.regrown_of (HWi.out (Go.Sort.grow (redrawn wr d) os))
                have cS := fun d os => Calls.regrown_of (HSy.out (Go.Sort.grow (redrawn wr d) os) (below_regrown wr d os))
                clear HWi HSy
                cases hk : (kind == 1) with
                | false =>
                  rw [hk, Bool.false_and, Bool.false_or] at hQ
                  have HS9 := hide (show (false || (sub.drop (m + 1)).any cv) = SS from by rw [Bool.false_or]; exact hQ)
                  clear hQ HS cW cS
                  go_wp2_with fail
                  refine wp_region_quiet_below (by kernel_rfl) (by kernel_rfl) ?_
                  repeat (go_big_quiet_step (fail))
                  refine wpQuiet_nil ?_
                  intro w9 hw9
                  obtain ⟨⟨d9, os9⟩, rfl⟩ := hw9
                  have hb9 := below_regrown wr d9 os9
                  go_wp2_with fail
                  go_roundg g2
                  case rel => exact ⟨m + 1, false, rfl, rfl, by omega, hide (HBx.out.trans (hb9.mono HBx.out.size)), HS9⟩
                  case measure => omega
                | true =>
                  rw [hk, Bool.true_and] at hQ
                  cases hpq : (ypath.toList == path.toList) with
                  | true =>
                    rw [hpq, Bool.not_true, Bool.false_and, Bool.false_or] at hQ
                    have HS9 := hide (show (false || (sub.drop (m + 1)).any cv) = SS from by rw [Bool.false_or]; exact hQ)
                    clear hQ HS cW cS
                    go_wp2_with fail
                    refine wp_region_quiet_below (by kernel_rfl) (by kernel_rfl) ?_
                    repeat (go_big_quiet_step (fail))
                    refine wpQuiet_nil ?_
                    intro w9 hw9
                    obtain ⟨⟨d9, os9⟩, rfl⟩ := hw9
                    have hb9 := below_regrown wr d9 os9
                    go_wp2_with fail
                    go_roundg g2
                    case rel => exact ⟨m + 1, false, rfl, rfl, by omega, hide (HBx.out.trans (hb9.mono HBx.out.size)), HS9⟩
                    case measure => omega
                  | false =>
                    rw [hpq, Bool.not_false, Bool.true_and] at hQ
                    cases wi with
                    | false =>
                      rw [Bool.false_and, Bool.false_or] at hQ
                      have HS9 := hide (show (false || (sub.drop (m + 1)).any cv) = SS from by rw [Bool.false_or]; exact hQ)
                      clear hQ HS cS
                      go_wp2_with fail
                      refine wp_region_quiet_below (by kernel_rfl) (by kernel_rfl) ?_
                      repeat (go_big_quiet_step ((go_at_call 26; exact cW _ _)))
                      refine wpQuiet_nil ?_
                      intro w9 hw9
                      obtain ⟨⟨d9, os9⟩, rfl⟩ := hw9
                      have hb9 := below_regrown wr d9 os9
                      go_wp2_with fail
                      go_roundg g2
                      case rel => exact ⟨m + 1, false, rfl, rfl, by omega, hide (HBx.out.trans (hb9.mono HBx.out.size)), HS9⟩
                      case measure => omega
                    | true =>
                      rw [Bool.true_and] at hQ
                      have HS9 := hide (show (sy || (sub.drop (m + 1)).any cv) = SS from hQ)
                      clear hQ HS
                      go_wp2_with fail
                      refine wp_region_quiet_below (by kernel_rfl) (by kernel_rfl) ?_
                      repeat (go_big_quiet_step ((first | (go_at_call 26; exact cW _ _) | (go_at_call 25; exact cS _ _))))
                      refine wpQuiet_nil ?_
                      intro w9 hw9
                      obtain ⟨⟨d9, os9⟩, rfl⟩ := hw9
                      have hb9 := below_regrown wr d9 os9
                      go_wp2_with fail
                      go_roundg g2
                      case rel => exact ⟨m + 1, sy, rfl, rfl, by omega, hide (HBx.out.trans (hb9.mono HBx.out.size)), HS9⟩
                      case measure => omega
end Go.Proofs.YteoafohebgfjdaaGreatDoor
