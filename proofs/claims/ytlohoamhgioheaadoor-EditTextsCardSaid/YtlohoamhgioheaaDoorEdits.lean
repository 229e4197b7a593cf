/-
  Edits that lie at an address, one behind the other; the law's own few.
-/
import Derived.Test.YtlohoamhgioheaaDoorBytes
import Derived.Test.YtlohoamhgioheaaDoorPathLib
import Derived.Deep.DeepCutAuto
import Derived.Deep.LoopGhost
namespace Go.Proofs.YtlohoamhgioheaaDoor
open Go.RowKit
set_option maxRecDepth 100000

/-- An edit. -/
structure Et where
  k : Int
  f : ByteArray
  t : ByteArray
  n : Int
/-- No edit. -/
def zeroEt : Et := ⟨0, ⟨#[]⟩, ⟨#[]⟩, 0⟩
/-- An edit's cells. -/
def Et.cells (e : Et) : Array Value := #[.int .i64 e.k, .string e.f, .string e.t, .int .i64 e.n]
/-- An edit's four cells, at an address. -/
structure EtAt (w : World) (ad : Addr) (e : Et) : Prop where
  k : w.cell? ad = some (.int .i64 e.k)
  f : w.cell? ⟨ad.block, ad.off + 1, none⟩ = some (.string e.f)
  t : w.cell? ⟨ad.block, ad.off + 2, none⟩ = some (.string e.t)
  n : w.cell? ⟨ad.block, ad.off + 3, none⟩ = some (.int .i64 e.n)
theorem EtAt.below {w w' : World} {B : Nat} {ad : Addr} {e : Et} (h : EtAt w ad e) (hb : Below B w w') (hB : ad.block < B) : EtAt w' ad e :=
  ⟨(hb.cell hB).trans h.k, (hb.cell (p := ⟨ad.block, _, none⟩) hB).trans h.f, (hb.cell (p := ⟨ad.block, _, none⟩) hB).trans h.t, (hb.cell (p := ⟨ad.block, _, none⟩) hB).trans h.n⟩
/-- Edits that lie at an address, one behind the other, below block B. -/
def RdE (w : World) (B : Nat) (A : Option Addr) (l : List Et) : Prop :=
  ∀ k e, l[k]? = some e → ∃ ad : Addr, A = some ad ∧ ad.block < B ∧ EtAt w (ad.add (k * 4)) e
theorem RdE.below {w w' : World} {B B' : Nat} {A : Option Addr} {l : List Et} (h : RdE w B A l) (hb : Below B' w w') (hB : B ≤ B') : RdE w' B A l := fun k x hx => by
  obtain ⟨ad, e, hlt, h0⟩ := h k x hx
  exact ⟨ad, e, hlt, h0.below hb (by rw [add_block]; omega)⟩
theorem RdE.mono {w : World} {B B' : Nat} {A : Option Addr} {l : List Et} (h : RdE w B A l) (hB : B ≤ B') : RdE w B' A l := fun k x hx => by
  obtain ⟨ad, e, hlt, hc⟩ := h k x hx
  exact ⟨ad, e, by omega, hc⟩
theorem RdE.step {w w' : World} {A : Option Addr} {l : List Et} (h : RdE w w.heap.size A l) (hb : Below w.heap.size w w') : RdE w' w'.heap.size A l := (h.below hb (Nat.le_refl _)).mono hb.size
theorem RdE.nil (w : World) (B : Nat) (A : Option Addr) : RdE w B A [] := fun k x hx => by simp at hx

/-- Are edits tried? -/
def fewB (e : Et) : Bool := !(decide (e.f.size > 200) || decide (e.t.size > 200))
def fewL (l : List Et) : Bool := !(decide (l.length > 20)) && l.all fewB
theorem few_at {l : List Et} (h : fewL l = true) : l.length ≤ 20 ∧ ∀ (k : Nat) (e : Et), l[k]? = some e → e.f.size ≤ 200 ∧ e.t.size ≤ 200 := by
  unfold fewL at h
  simp only [Bool.and_eq_true, Bool.not_eq_true', decide_eq_false_iff_not, List.all_eq_true] at h
  refine ⟨by omega, fun k e he => ?_⟩
  have h2 := h.2 e (List.mem_of_getElem? he)
  unfold fewB at h2
  simp only [Bool.not_eq_true', Bool.or_eq_false_iff, decide_eq_false_iff_not] at h2
  omega

set_option maxHeartbeats 4000000 in
theorem few_any (A : Option Addr) (l : List Et) (c : Nat) (w : World) (hA : RdE w w.heap.size A l) :
    Calls Tryd.prog 6 #[.slice A l.length c] w fun e w' => e = .returned (.bool (fewL l)) ∧ Below w.heap.size w w' := by
  by_cases h20 : (l.length : Int) > 20
  · have HE := hide (show fewL l = false by unfold fewL; rw [decide_eq_true (show l.length > 20 by omega)]; rfl)
    go_enter Tryd.func6, Tryd.ntmps6
    go_wp2_with fail
    exact bodyPost_ret (results_tmp rfl _ _ _) rfl ⟨by rw [HE.out]; rfl, Below.refl _ _⟩
  · have HE0 := hide (show fewL l = l.all fewB by unfold fewL; rw [decide_eq_false (show ¬ l.length > 20 by omega)]; rfl)
    go_enter Tryd.func6, Tryd.ntmps6
    go_wp2_with fail
    go_loopg [3] l.length (fun gk iv wr => ∃ i : Nat, iv = .int .i64 i ∧ i + gk = l.length ∧ Hid ((l.drop i).all fewB = l.all fewB) ∧ Below w.heap.size w wr ∧ RdE wr wr.heap.size A l)
    case atStart => exact ⟨0, rfl, by omega, hide rfl, Below.refl _ _, hA⟩
    case round =>
      obtain ⟨i, rfl, hig, HB, hB, hR⟩ := hrel
      clear hA
      cases gk with
      | zero =>
        obtain rfl : i = l.length := by omega
        have HE := hide (show fewL l = true by rw [HE0.out, ← HB.out, List.drop_length]; rfl)
        clear HB
        go_wp2_with fail
        exact bodyPost_ret (results_tmp rfl _ _ _) rfl ⟨by rw [HE.out]; rfl, hB⟩
      | succ g0 =>
        have hii : (i : Int) < l.length := by omega
        obtain ⟨n, hn⟩ : ∃ n, l[i]? = some n := ⟨_, List.getElem?_eq_getElem (by omega)⟩
        obtain ⟨ad, rfl, hlt, hnd⟩ := hR i n hn
        have c1 := hnd.f
        have c2 := hnd.t
        have hd := HB.out
        rw [List.drop_eq_getElem_cons (by omega), (List.getElem?_eq_some_iff.1 hn).2, List.all_cons] at hd
        clear HB hn hnd
        by_cases h1 : (n.f.size : Int) > 200
        · have HE := hide (show fewL l = false by
            rw [HE0.out, ← hd]; unfold fewB; rw [decide_eq_true (show n.f.size > 200 by omega)]; rfl)
          clear hd
          go_wp2_with fail
          exact bodyPost_ret (results_tmp rfl _ _ _) rfl ⟨by rw [HE.out]; rfl, hB⟩
        · by_cases h2 : (n.t.size : Int) > 200
          · have HE := hide (show fewL l = false by
              rw [HE0.out, ← hd]; unfold fewB; rw [decide_eq_true (show n.t.size > 200 by omega), Bool.or_true]; rfl)
            clear hd
            go_wp2_with fail
            exact bodyPost_ret (results_tmp rfl _ _ _) rfl ⟨by rw [HE.out]; rfl, hB⟩
          · have HD := hide (show (l.drop (i + 1)).all fewB = l.all fewB by
              rw [← hd]; unfold fewB; rw [decide_eq_false (show ¬ n.f.size > 200 by omega), decide_eq_false (show ¬ n.t.size > 200 by omega)]; rfl)
            clear hd
            go_wp2_with fail
            go_roundg g0
            case rel => exact ⟨i + 1, rfl, by omega, HD, hB, hR⟩
            case measure => omega
end Go.Proofs.YtlohoamhgioheaaDoor
