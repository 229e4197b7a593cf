/-
  merkle.bare: what is at a path and under it, with paths from there on, kinds and bytes alone.
-/
import Derived.Test.YtbklgijndjpgoaaDoorMkText
import Derived.Test.YtbklgijndjpgoaaDoorMkAt
import Derived.Test.YtbklgijndjpgoaaDoorMkPathsC
namespace Go.Proofs.YtbklgijndjpgoaaDoor
open Go.RowKit
set_option maxRecDepth 100000

/-- A node, as it is seen from a path. -/
def seen (p : ByteArray) (n : Nd) : Nd := ⟨movedV n.path p ⟨#[]⟩, n.kind, 0, 0, n.data⟩
def under (p : ByteArray) (n : Nd) : Bool := moveOk n.path p ⟨#[]⟩ && !(movedV n.path p ⟨#[]⟩).toList.isEmpty
def undersL (p : ByteArray) (l : List Nd) : List Nd := (l.filter (under p)).map (seen p)
def bareL (p : ByteArray) (l : List Nd) : List Nd := if (topL p l).2 = true then ⟨⟨#[]⟩, (topL p l).1.kind, 0, 0, (topL p l).1.data⟩ :: undersL p l else []
theorem under_drop (p : ByteArray) (l : List Nd) (i : Nat) (n : Nd) (h : l[i]? = some n) : undersL p (l.drop i) = (if under p n = true then [seen p n] else []) ++ undersL p (l.drop (i + 1)) := by
  obtain ⟨hlt, e⟩ := List.getElem?_eq_some_iff.1 h
  rw [List.drop_eq_getElem_cons hlt, e]
  unfold undersL
  rw [List.filter_cons]
  cases under p n <;> simp

set_option maxHeartbeats 32000000 in
theorem bare_any (A : Option Addr) (l : List Nd) (c : Nat) (p : ByteArray) (w : World) (hA : RdN w w.heap.size A l) (hf : FewN l) (hl : (l.length : Int) ≤ 1000) (hp : (p.size : Int) ≤ 1000000) :
    Calls Tryd.prog 30 #[.slice A l.length c, .string p] w fun e w' => ∃ v, e = .returned v ∧ NI w v (bareL p l) w' := by
  obtain ⟨i0, hi, hz0, hz1, hz2⟩ := info_parts info_node
  have HTop := hide (top_any A l c p w hA (by omega))
  have HF := hide hf
  have HA := hide hA
  obtain ⟨V, hV⟩ : ∃ V, V = bareL p l := ⟨_, rfl⟩
  rw [← hV]
  unfold bareL at hV
  generalize topL p l = T at HTop hV
  obtain ⟨⟨tpath, tkind, tmode, ttime, tdata⟩, ok⟩ := T
  simp only at hV
  have HV := hide hV
  clear hA hf hV
  go_enter Tryd.func30, Tryd.ntmps30
  go_wp2_with fail
  refine HTop.out.mono ?_
  rintro e w1 ⟨rfl, hb1⟩
  clear HTop
  simp only [Nd.cells]
  cases ok with
  | false =>
    have HE := hide (show V = [] by rw [HV.out, if_neg (by decide)])
    have HBF := hide (hb1.alloc hb1.size (.cells #[.string tpath, .int .i64 tkind, .int .i64 tmode, .int .i64 ttime, .string tdata] 34))
    clear hb1 HV
    go_wp2_with fail
    exact bodyPost_ret (results_tmp rfl _ _ _) rfl ⟨.slice none 0 0, rfl, HBF.out, by rw [HE.out]; exact World.ownsRow_nil _ _ _ _⟩
  | true =>
    have hE := HV.out
    rw [if_pos rfl] at hE
    have r1 := World.alloc_heap_new w1 (Obj.cells #[.string tpath, .int .i64 tkind, .int .i64 tmode, .int .i64 ttime, .string tdata] 34)
    have k1 : (w1.alloc (.cells #[.string tpath, .int .i64 tkind, .int .i64 tmode, .int .i64 ttime, .string tdata] 34)).cell? ⟨w1.heap.size, 1, none⟩ = some (.int .i64 tkind) := cell_of_row _ _ _ _ _ _ r1
    have k4 : (w1.alloc (.cells #[.string tpath, .int .i64 tkind, .int .i64 tmode, .int .i64 ttime, .string tdata] 34)).cell? ⟨w1.heap.size, 4, none⟩ = some (.string tdata) := cell_of_row _ _ _ _ _ _ r1
    have hb2 := (hb1.alloc hb1.size (.cells #[.string tpath, .int .i64 tkind, .int .i64 tmode, .int .i64 ttime, .string tdata] 34))
    have hb3 := hb2.alloc hb2.size (.cells #[.string ⟨#[]⟩, .int .i64 tkind, .int .i64 0, .int .i64 0, .string tdata] 34)
    have hO3 : ((w1.alloc (.cells #[.string tpath, .int .i64 tkind, .int .i64 tmode, .int .i64 ttime, .string tdata] 34)).alloc (.cells #[.string ⟨#[]⟩, .int .i64 tkind, .int .i64 0, .int .i64 0, .string tdata] 34)).ownsRow w.heap.size 34 5 (.slice (some ⟨(w1.alloc (.cells #[.string tpath, .int .i64 tkind, .int .i64 tmode, .int .i64 ttime, .string tdata] 34)).heap.size, 0, none⟩) 1 1) 1 (cellsN [⟨⟨#[]⟩, tkind, 0, 0, tdata⟩]) := World.ownsRow_lit _ #[.string ⟨#[]⟩, .int .i64 tkind, .int .i64 0, .int .i64 0, .string tdata] 1 hb2.size (by decide) rfl
    have e1 : (w1.alloc (.cells #[.string tpath, .int .i64 tkind, .int .i64 tmode, .int .i64 ttime, .string tdata] 34)).heap.size = w1.heap.size + 1 := by simp
    rw [e1] at hO3
    have H0 := hide (show NI w (.slice (some ⟨w1.heap.size + 1, 0, none⟩) 1 1) [⟨⟨#[]⟩, tkind, 0, 0, tdata⟩] _ from ⟨hb3, hO3⟩)
    have HQ0 := hide (show [(⟨⟨#[]⟩, tkind, 0, 0, tdata⟩ : Nd)] ++ undersL p (l.drop 0) = V by rw [hE]; rfl)
    clear hO3 hb3 hb2 hb1 hE HV r1 e1
    go_wp2_with fail
    clear k1 k4
    go_loopg [7, 28] l.length (fun gk ov iv wr => ∃ (j : Nat) (E : Option Addr) (f : Nat) (o : List Nd), ov = .slice E o.length f ∧ iv = .int .i64 j ∧ j + gk = l.length ∧ o.length ≤ j + 1 ∧ Hid (NI w (.slice E o.length f) o wr) ∧ Hid (o ++ undersL p (l.drop j) = V))
    case atStart => exact ⟨0, _, 1, [⟨⟨#[]⟩, tkind, 0, 0, tdata⟩], rfl, rfl, by omega, by simp, H0, HQ0⟩
    case round =>
      obtain ⟨j, E, f, o, rfl, rfl, hjg, hoj, HO, HQ⟩ := hrel
      clear H0 HQ0
      cases gk with
      | zero =>
        have hE : V = o := by rw [← HQ.out, List.drop_of_length_le (by omega)]; simp [undersL]
        have HFin := hide (show NI w (.slice E o.length f) V wr by rw [hE]; exact HO.out)
        obtain rfl : j = l.length := by omega
        clear hE HQ HO
        go_wp2_with fail
        exact bodyPost_ret (results_tmp rfl _ _ _) rfl ⟨.slice E o.length f, rfl, HFin.out⟩
      | succ g1 =>
        have hji : (j : Int) < l.length := by omega
        obtain ⟨n, hn⟩ : ∃ n, l[j]? = some n := ⟨_, List.getElem?_eq_getElem (by omega)⟩
        obtain ⟨ad, rfl, hlt, hnd⟩ := (HA.out.below HO.out.below (Nat.le_refl _)) j n hn
        have hfew := HF.out j n hn
        have hd := HQ.out
        rw [under_drop p l j n hn] at hd
        have hjw : IntKind.i64.wrap ((j : Int) + 1) = ((j + 1 : Nat) : Int) := by rw [IntWalk.i64_in _ (by omega)]; rfl
        have HReb := hide (fun W => rebase_any n.path p ⟨#[]⟩ W hfew.1 hp (by decide))
        have hun : under p n = (moveOk n.path p ⟨#[]⟩ && !(movedV n.path p ⟨#[]⟩).toList.isEmpty) := rfl
        have hsn : seen p n = ⟨movedV n.path p ⟨#[]⟩, n.kind, 0, 0, n.data⟩ := rfl
        generalize under p n = U at hun hd
        generalize seen p n = S at hsn hd
        generalize moveOk n.path p ⟨#[]⟩ = mo at HReb hun
        generalize movedV n.path p ⟨#[]⟩ = q at HReb hun hsn
        obtain ⟨c0, c1, c2, c3, c4⟩ := hnd
        obtain ⟨path, kind, mode, time, data⟩ := n
        simp only at c0 c1 c2 c3 c4 HReb hsn
        have r2 := World.alloc_heap_new wr (Obj.cells #[.string path, .int .i64 kind, .int .i64 mode, .int .i64 time, .string data] 34)
        have HO2 := hide (HO.out.step ((Below.refl _ wr).alloc (Nat.le_refl _) (.cells #[.string path, .int .i64 kind, .int .i64 mode, .int .i64 time, .string data] 34)))
        have HR2 := hide r2
        clear HQ hn hfew hlt HO r2
        cases mo with
        | false =>
          subst hun
          rw [show (false && !q.toList.isEmpty) = false from rfl, if_neg (by decide), List.nil_append] at hd
          have HD := hide hd
          clear hd hsn
          go_wp2_with (go_at_call 51; refine (HReb.out _).mono ?_; rintro e w3 ⟨rfl, hb3⟩)
          have HO3 := hide (HO2.out.step hb3)
          go_roundg g1
          case rel => exact ⟨j + 1, E, f, o, rfl, rfl, by omega, by omega, HO3, HD⟩
          case measure => omega
        | true =>
          cases hq : q.toList.isEmpty with
          | true =>
            rw [hq] at hun
            subst hun
            rw [show (true && !true) = false from rfl, if_neg (by decide), List.nil_append] at hd
            have HD := hide hd
            clear hd hsn
            have hq2 : (q.toList == []) = true := by rw [List.isEmpty_iff.1 hq]; rfl
            go_wp2_with (go_at_call 51; refine (HReb.out _).mono ?_; rintro e w3 ⟨rfl, hb3⟩)
            have HO3 := hide (HO2.out.step hb3)
            go_roundg g1
            case rel => exact ⟨j + 1, E, f, o, rfl, rfl, by omega, by omega, HO3, HD⟩
            case measure => omega
          | false =>
            rw [hq] at hun
            subst hun
            rw [show (true && !false) = true from rfl, if_pos rfl, ← List.append_assoc, hsn] at hd
            have HD := hide hd
            clear hd hsn
            have hq2 : (q.toList == []) = false := by cases hc : q.toList with | nil => rw [hc] at hq; cases hq | cons a b => rfl
            go_upto_if 43 with (go_at_call 51; refine (HReb.out _).mono ?_; rintro e w3 ⟨rfl, hb3⟩)
            have r3 := (hb3.block wr.heap.size (by simp)).trans HR2.out
            have k1 : w3.cell? ⟨wr.heap.size, 1, none⟩ = some (.int .i64 kind) := cell_of_row _ _ _ _ _ _ r3
            have k4 : w3.cell? ⟨wr.heap.size, 4, none⟩ = some (.string data) := cell_of_row _ _ _ _ _ _ r3
            have hO3 := (HO2.out.step hb3).own
            have hB3 := (HO2.out.step hb3).below
            have hO4 := hO3.alloc (.cells (Nd.cells ⟨q, kind, 0, 0, data⟩) 34)
            have hRn := RdN.one w3 ⟨q, kind, 0, 0, data⟩ 34
            have hB4 := hB3.alloc hB3.size (.cells (Nd.cells ⟨q, kind, 0, 0, data⟩) 34)
            have hsz := hB4.size
            clear hb3 hO3 hB3 r3 HR2 HO2
            go_wp2_with (at_builtin; refine wpList_append_nodes rfl _ _ 22 rfl w.heap.size 34 i0 Tryd.underlying22 hi hz0 hz1 hz2 _ _ _ rfl hO4 (some ⟨w3.heap.size, 0, none⟩) _ 1 _ [⟨q, kind, 0, 0, data⟩] rfl rfl hRn (by unfold maxLen; omega) (by omega) hsz ?_)
            intro v5 w5 hO5 hg5
            have hB5 := hB4.grown hg5 hB4.size (fun r e => (hO4.lt r e).1)
            obtain ⟨D, g, rfl⟩ := ownsRow_slice hO5
            have hlen6 : (o ++ [(⟨q, kind, 0, 0, data⟩ : Nd)]).length = o.length + 1 := by simp
            have HO6 := hide (show NI w (.slice D (o.length + 1) g) (o ++ [⟨q, kind, 0, 0, data⟩]) w5 from ⟨hB5, by rw [cellsN_app, hlen6]; exact hO5⟩)
            clear hO4 hRn hB4 hO5 hg5 hB5 hsz k1 k4
            go_wp2_with fail
            go_roundg g1
            case rel => exact ⟨j + 1, D, g, o ++ [⟨q, kind, 0, 0, data⟩], by rw [hlen6], rfl, by omega, by rw [hlen6]; omega, by rw [hlen6]; exact HO6, HD⟩
            case measure => omega
end Go.Proofs.YtbklgijndjpgoaaDoor
