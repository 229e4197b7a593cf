/-
  Texts that belong together: BkSame, MapG.
-/
import Derived.Test.YtobgbheodlpclaaAutoBkRow
import Derived.Deep.QuietTactic
import Derived.Maps.OwnSet
import Derived.DeepKeys4
/-
  Are signs the same: slices.Equal.
-/
namespace Go.Proofs.Ytobgbheodlpclaa
open Go.RowKit
set_option maxRecDepth 100000

/-- Are two signs the same? -/
def sgB (x y : Sg) : Bool := (((x.weak : Nat) : Int) == ((y.weak : Nat) : Int)) && ((((x.hi : Nat) : Int) == ((y.hi : Nat) : Int)) && (((x.lo : Nat) : Int) == ((y.lo : Nat) : Int)))
def sgsB : List Sg → List Sg → Bool
  | [], [] => true
  | x :: a, y :: b => sgB x y && sgsB a b
  | _, _ => false
theorem sgB_iff (x y : Sg) : sgB x y = true ↔ x = y := by
  obtain ⟨a, b, c⟩ := x
  obtain ⟨a', b', c'⟩ := y
  simp only [sgB, Bool.and_eq_true, beq_iff_eq, Sg.mk.injEq]
  omega
theorem sgsB_iff : ∀ a b : List Sg, sgsB a b = true ↔ a = b
  | [], [] => by simp [sgsB]
  | x :: a, [] => by simp [sgsB]
  | [], y :: b => by simp [sgsB]
  | x :: a, y :: b => by
    simp only [sgsB, Bool.and_eq_true, sgB_iff, sgsB_iff a b, List.cons.injEq]
theorem sgsB_refl (a : List Sg) : sgsB a a = true := (sgsB_iff a a).2 rfl
theorem sgsB_drop (a b : List Sg) (i : Nat) (x y : Sg) (hx : a[i]? = some x) (hy : b[i]? = some y) : sgsB (a.drop i) (b.drop i) = (sgB x y && sgsB (a.drop (i + 1)) (b.drop (i + 1))) := by
  obtain ⟨h1, e1⟩ := List.getElem?_eq_some_iff.1 hx
  obtain ⟨h2, e2⟩ := List.getElem?_eq_some_iff.1 hy
  rw [List.drop_eq_getElem_cons h1, List.drop_eq_getElem_cons h2, e1, e2]; rfl
theorem sgsB_len {a b : List Sg} (h : a.length ≠ b.length) : sgsB a b = false := by
  cases e : sgsB a b with
  | false => rfl
  | true => exact absurd (by rw [(sgsB_iff a b).1 e]) h
/-- Where two signs differ first. -/
theorem sgB_first {x y : Sg} (h : sgB x y = false) :
    (((x.weak : Nat) : Int) == ((y.weak : Nat) : Int)) = false ∨ ((((x.weak : Nat) : Int) == ((y.weak : Nat) : Int)) = true ∧ (((x.hi : Nat) : Int) == ((y.hi : Nat) : Int)) = false) ∨ ((((x.weak : Nat) : Int) == ((y.weak : Nat) : Int)) = true ∧ (((x.hi : Nat) : Int) == ((y.hi : Nat) : Int)) = true ∧ (((x.lo : Nat) : Int) == ((y.lo : Nat) : Int)) = false) := by
  unfold sgB at h
  cases h1 : (((x.weak : Nat) : Int) == ((y.weak : Nat) : Int)) <;> cases h2 : (((x.hi : Nat) : Int) == ((y.hi : Nat) : Int)) <;> cases h3 : (((x.lo : Nat) : Int) == ((y.lo : Nat) : Int)) <;> simp_all

set_option maxHeartbeats 16000000 in
theorem eqSigns_any (A D : Option Addr) (a b : List Sg) (c d : Nat) (w : World) (hA : RdSg w w.heap.size A a) (hD : RdSg w w.heap.size D b) (ha : (a.length : Int) ≤ 1000000) :
    Calls Try.prog 77 #[.slice A a.length c, .slice D b.length d] w fun e w' => e = .returned (.bool (sgsB a b)) ∧ Below w.heap.size w w' := by
  obtain ⟨V, hV⟩ : ∃ V, V = sgsB a b := ⟨_, rfl⟩
  rw [← hV]
  by_cases hl : a.length = b.length
  · have HV := hide (show sgsB (a.drop 0) (b.drop 0) = V by rw [hV]; rfl)
    have hle : (a.length : Int) = b.length := by omega
    have HAA := hide hA
    have HDD := hide hD
    clear hV hA hD
    go_enter Try.func77, Try.ntmps77
    go_wp2_with fail
    go_loopg [13] a.length (fun gk iv wr => ∃ i : Nat, iv = .int .i64 i ∧ i + gk = a.length ∧ Hid (sgsB (a.drop i) (b.drop i) = V) ∧ Hid (Below w.heap.size w wr))
    case atStart => exact ⟨0, rfl, by omega, HV, hide (Below.refl _ _)⟩
    case round =>
      obtain ⟨i, rfl, hig, HB, HW⟩ := hrel
      clear HV
      cases gk with
      | zero =>
        obtain rfl : i = a.length := by omega
        have HE := hide (show V = true by rw [← HB.out, List.drop_length, hl, List.drop_length]; rfl)
        clear HB
        go_wp2_with fail
        exact bodyPost_ret (results_tmp rfl _ _ _) rfl ⟨by rw [HE.out]; rfl, HW.out⟩
      | succ g0 =>
        have hii : (i : Int) < a.length := by omega
        have hib : (i : Int) < b.length := by omega
        have hi0 : (0 : Int) ≤ (i : Int) := by omega
        obtain ⟨x, hx⟩ : ∃ x, a[i]? = some x := ⟨_, List.getElem?_eq_getElem (by omega)⟩
        obtain ⟨y, hy⟩ : ∃ y, b[i]? = some y := ⟨_, List.getElem?_eq_getElem (by omega)⟩
        have hd := HB.out
        rw [sgsB_drop a b i x y hx hy] at hd
        obtain ⟨ad, rfl, hlt1, h1⟩ := (HAA.out.below HW.out (Nat.le_refl _)) i x hx
        obtain ⟨ae, rfl, hlt2, h2⟩ := (HDD.out.below HW.out (Nat.le_refl _)) i y hy
        have hiw : IntKind.i64.wrap ((i : Int) + 1) = ((i + 1 : Nat) : Int) := by rw [IntWalk.i64_in _ (by omega)]; rfl
        obtain ⟨c0, c1, c2⟩ := h1
        obtain ⟨e0, e1, e2⟩ := h2
        cases hq : sgB x y with
        | true =>
          rw [hq, Bool.true_and] at hd
          obtain rfl := (sgB_iff x y).1 hq
          have HD := hide hd
          clear hd HB hx hy hq hlt1 hlt2
          obtain ⟨wk, hi, lo⟩ := x
          simp only at c0 c1 c2 e0 e1 e2
          go_wp2_with fail
          go_quiet (fail)
          go_wp2_with fail
          rename_i nq
          have HW2 := hide (below_drewN HW.out nq)
          go_roundg g0
          case rel => exact ⟨i + 1, rfl, by omega, HD, HW2⟩
          case measure => omega
        | false =>
          rw [hq, Bool.false_and] at hd
          have HD := hide hd
          have hfirst := sgB_first hq
          clear hd HB hx hy hq hlt1 hlt2
          obtain ⟨wk, hi, lo⟩ := x
          obtain ⟨wk', hi', lo'⟩ := y
          simp only at c0 c1 c2 e0 e1 e2 hfirst
          rcases hfirst with g1 | ⟨g1, g2⟩ | ⟨g1, g2, g3⟩
          all_goals
            go_wp2_with fail
            go_quiet (fail)
            go_wp2_with fail
            rename_i nq
            exact bodyPost_ret (results_tmp rfl _ _ _) rfl ⟨by rw [← HD.out]; rfl, below_drewN HW.out nq⟩
  · have hle : ¬ (a.length : Int) = b.length := by omega
    have HE := hide (show V = false by rw [hV]; exact sgsB_len hl)
    clear hV
    go_enter Try.func77, Try.ntmps77
    go_wp2_with fail
    exact bodyPost_ret (results_tmp rfl _ _ _) rfl ⟨by rw [HE.out]; rfl, Below.refl _ _⟩
end Go.Proofs.Ytobgbheodlpclaa
/-
  Maps from keys of any type, of any values: what lies at each key.
-/
namespace Go.Proofs.Ytobgbheodlpclaa
open Go.RowKit Go.Maps Go.WideMaps
set_option maxRecDepth 100000

/-- How the keys of a type are told. -/
structure KeyTo (K : TypeId) (κ : Type) where
  val : κ → Value
  ok : κ → Prop
  lit : κ → Lit
  law : Keyed Try.prog K
  has : ∀ x, ok x → keyOf Try.prog K (val x) = some (lit x)
  inj : ∀ x y, val x = val y → x = y
theorem KeyTo.lit_inj {K : TypeId} {κ : Type} (T : KeyTo K κ) {x y : κ} (hx : T.ok x) (hy : T.ok y) (h : T.lit x = T.lit y) : x = y :=
  T.inj x y (T.law.inj (T.has x hx) (h ▸ T.has y hy))
/-- A map's element, read as itself. -/
def rawE (v : Value) : Option (DataW Value × List MemPlace) := some (.held v, [])
/-- Block b is a map of at most n entries that has f. -/
def MapG {K : TypeId} {κ : Type} (T : KeyTo K κ) (w : World) (b n : Nat) (f : κ → Option Value) : Prop :=
  ∃ D, w.ownsMap Try.prog K rawE b n D ∧ ∀ x, T.ok x → Maps.has D (T.lit x) = (f x).isSome ∧ ∀ z, D.atKey (T.lit x) (.held z) = .held ((f x).getD z)

section
variable {K : TypeId} {κ : Type} {T : KeyTo K κ} {w : World} {b n : Nat} {f : κ → Option Value}
theorem MapG.lt (h : MapG T w b n f) : b < w.heap.size := by obtain ⟨D, h, _⟩ := h; exact h.lt
theorem MapG.kept {w' : World} {row : Option Nat} (h : MapG T w b n f) (hg : w.grownBy w' row) (hne : some b ≠ row) : MapG T w' b n f := by
  obtain ⟨D, h, r⟩ := h; exact ⟨D, h.kept hg hne, r⟩
theorem MapG.at (h : MapG T w b n f) : ∃ es clock, w.heap[b]? = some (.map es clock) := by
  obtain ⟨D, ⟨es, clock, hb, _⟩, _⟩ := h; exact ⟨es, clock, hb⟩
theorem MapG.stay {w' : World} (h : MapG T w b n f) (he : w'.heap[b]? = w.heap[b]?) : MapG T w' b n f := by
  obtain ⟨D, ⟨es, clock, hb, r⟩, q⟩ := h; exact ⟨D, ⟨es, clock, he.trans hb, r⟩, q⟩
theorem MapG.below {w' : World} {B : Nat} (h : MapG T w b n f) (hb : Below B w w') (hB : b < B) : MapG T w' b n f := h.stay (hb.block b hB)
/-- No cell lies in a map's block. -/
theorem MapG.no_cell (h : MapG T w b n f) {a : Addr} {v : Value} (ha : w.cell? a = some v) : a.block ≠ b := by
  obtain ⟨es, clock, hb⟩ := h.at
  rintro rfl
  unfold World.cell? at ha
  rw [hb] at ha
  cases ha
theorem MapG.made (T : KeyTo K κ) (w : World) : MapG T (w.alloc (.map #[] 0)) w.heap.size 0 fun _ => none :=
  ⟨.map [], World.ownsMap_made _ _ _ _, fun _ _ => ⟨rfl, fun _ => rfl⟩⟩
/-- m[x] -/
theorem MapG.look (h : MapG T w b n f) {t e : TypeId} (ht : Try.prog.underlying t = some (.map K e)) {z : Value} (hz : (zeroValue e).run Try.prog w = .ok z w) (x : κ) (hx : T.ok x) :
    (Instr.lookup t (.map (some b)) (T.val x) false).run Try.prog w = .ok ((f x).getD z) w := by
  obtain ⟨D, h, hf⟩ := h
  obtain ⟨v, ps, hrun, hv⟩ := h.lookup T.law ht hz (zd := .held z) (zp := []) rfl (T.has x hx)
  rw [(hf x hx).2 z] at hv
  simp only [rawE, Option.some.injEq, Prod.mk.injEq, DataW.held.injEq] at hv
  rw [hrun, hv.1]
/-- v, ok := m[x] -/
theorem MapG.look_ok (h : MapG T w b n f) {t e : TypeId} (ht : Try.prog.underlying t = some (.map K e)) {z : Value} (hz : (zeroValue e).run Try.prog w = .ok z w) (x : κ) (hx : T.ok x) :
    (Instr.lookup t (.map (some b)) (T.val x) true).run Try.prog w = .ok (.tuple #[(f x).getD z, .bool (f x).isSome]) w := by
  obtain ⟨D, h, hf⟩ := h
  obtain ⟨v, ps, hrun, hv⟩ := h.look_ok T.law ht hz (zd := .held z) (zp := []) rfl (T.has x hx)
  rw [(hf x hx).2 z] at hv
  rw [(hf x hx).1] at hrun
  simp only [rawE, Option.some.injEq, Prod.mk.injEq, DataW.held.injEq] at hv
  rw [hrun, hv.1]
/-- m[x] = v -/
theorem MapG.put (h : MapG T w b n f) {t e : TypeId} (ht : Try.prog.underlying t = some (.map K e)) (x : κ) (hx : T.ok x) (hn : n < maxLen) (v : Value) (g : κ → Option Value) (hgs : g x = some v) (hgo : ∀ y, y ≠ x → g y = f y) :
    ∃ w', (Instr.mapUpdate t (.map (some b)) (T.val x) v).run Try.prog w = .ok () w' ∧ MapG T w' b (n + 1) g ∧ w.grownBy w' (some b) := by
  obtain ⟨D, h, hf⟩ := h
  have hT := h.tidy T.law
  obtain ⟨w', hrun, h1, hgr⟩ := h.update T.law ht hn (d := .held v) (ps := []) (T.has x hx) rfl
  have hk := T.law.key (T.has x hx)
  refine ⟨w', hrun, ⟨D.put (T.lit x) (.held v), h1, fun q hq => ?_⟩, hgr⟩
  by_cases hqx : T.lit q = T.lit x
  · obtain rfl := T.lit_inj hq hx hqx
    rw [hgs]
    exact ⟨by rw [has_put_same hT.isMap hk]; rfl, fun z => by rw [atKey_put_same hT.isMap hk]; rfl⟩
  · rw [hgo q (fun e => hqx (by rw [e]))]
    exact ⟨by rw [has_put_other hqx]; exact (hf q hq).1, fun z => by rw [atKey_put_other hqx]; exact (hf q hq).2 z⟩
end

/-- Weak sums as keys. -/
def weakK : KeyTo 25 Nat where
  val n := .int .u32 (n : Nat)
  ok n := n < 4294967296
  lit n := .int .u32 (n : Nat)
  law := int_keyed Try.underlying25
  has n h := keyOf_int_mk Try.underlying25 (by simp [Lit.wf, IntKind.min, IntKind.max, IntKind.signed, IntKind.bits]; omega)
  inj x y h := by injection h with _ h; omega

theorem deepSg : Try.prog.keyType 30 = true := by kernel_rfl
theorem wideSg : (match Try.prog.underlying 30 with | some (.array _ _) | some (.struct _) => true | _ => false) = true := by kernel_rfl
theorem lawSg : KeyLaw Try.prog 30 := deep_law_laid laidOut (m := 4) (by omega) (of_decide_eq_true (by kernel_rfl)) (by kernel_rfl) wideSg
def litSg (s : Sg) : Lit := .string (keyBytes [.int .u32 (s.weak : Nat), .int .u64 (s.hi : Nat), .int .u64 (s.lo : Nat)])
theorem sizeT : ∃ d, Try.prog.types.size + 1 = d + 3 := by
  have h : decide (3 ≤ Try.prog.types.size) = true := by kernel_rfl
  have h2 := of_decide_eq_true h
  exact ⟨Try.prog.types.size - 2, by omega⟩
theorem lits_u32 (d : Nat) (a : Nat) (h : a < 4294967296) : Try.prog.keyLits (d + 1) 25 [.int .u32 (a : Nat)] = some [.int .u32 (a : Nat)] := by
  have w1 : (Lit.int .u32 (a : Nat)).wf = true := by simp [Lit.wf, IntKind.min, IntKind.max, IntKind.signed, IntKind.bits]; omega
  unfold Program.keyLits
  rw [Try.underlying25]
  simp only
  rw [if_pos ⟨trivial, w1⟩]
theorem lits_u64 (d : Nat) (a : Nat) (h : a < 18446744073709551616) : Try.prog.keyLits (d + 1) 26 [.int .u64 (a : Nat)] = some [.int .u64 (a : Nat)] := by
  have w1 : (Lit.int .u64 (a : Nat)).wf = true := by simp [Lit.wf, IntKind.min, IntKind.max, IntKind.signed, IntKind.bits]; omega
  unfold Program.keyLits
  rw [Try.underlying26]
  simp only
  rw [if_pos ⟨trivial, w1⟩]
theorem cells_u32 : Try.prog.cellsOf 25 = 1 := by kernel_rfl
theorem cells_u64 : Try.prog.cellsOf 26 = 1 := by kernel_rfl
theorem cells_sum : Try.prog.cellsOf 28 = 2 := by kernel_rfl
theorem cells_sg : Try.prog.cellsOf 30 = 3 := by kernel_rfl
theorem lits_sum (d : Nat) (a b : Nat) (ha : a < 18446744073709551616) (hb : b < 18446744073709551616) : Try.prog.keyLits (d + 2) 28 [.int .u64 (a : Nat), .int .u64 (b : Nat)] = some [.int .u64 (a : Nat), .int .u64 (b : Nat)] := by
  have e1 := lits_u64 d a ha
  have e2 := lits_u64 d b hb
  unfold Program.keyLits
  rw [Try.underlying28]
  simp only [cells_sum]
  rw [if_pos ⟨rfl, by kernel_rfl⟩]
  simp only [cells_u64, List.mapM_cons, List.mapM_nil, List.drop_zero, List.drop_succ_cons, List.take_succ_cons, List.take_zero, e1, e2]
  rfl
theorem lits_sg (d : Nat) (s : Sg) (h : s.fits) : Try.prog.keyLits (d + 3) 30 [.int .u32 (s.weak : Nat), .int .u64 (s.hi : Nat), .int .u64 (s.lo : Nat)] = some [.int .u32 (s.weak : Nat), .int .u64 (s.hi : Nat), .int .u64 (s.lo : Nat)] := by
  have e1 := lits_u32 (d + 1) s.weak h.1
  have e2 := lits_sum d s.hi s.lo h.2.1 h.2.2
  unfold Program.keyLits
  rw [Try.underlying30]
  simp only [cells_sg]
  rw [if_pos ⟨rfl, by kernel_rfl⟩]
  simp only [cells_u32, cells_sum, List.mapM_cons, List.mapM_nil, List.drop_zero, List.drop_succ_cons, List.take_succ_cons, List.take_zero, e1, e2]
  rfl
theorem formed_sg (s : Sg) : (Value.agg s.cells).formed Try.prog 30 = true := by
  simp [Value.formed, Try.underlying30, cells_sg, Sg.cells]
theorem keyOf_sg (s : Sg) (h : s.fits) : keyOf Try.prog 30 (.agg s.cells) = some (litSg s) := by
  obtain ⟨d, hd⟩ := sizeT
  have e := lits_sg d s h
  unfold keyOf
  rw [Try.underlying30]
  simp only
  rw [deepSg, formed_sg, hd]
  show (if (true && true) = true then _ else _) = _
  rw [Bool.and_self, if_pos rfl]
  show Option.map _ (Try.prog.keyLits (d + 3) 30 [.int .u32 (s.weak : Nat), .int .u64 (s.hi : Nat), .int .u64 (s.lo : Nat)]) = _
  rw [e]
  rfl
/-- Signs as keys. -/
def signK : KeyTo 30 Sg where
  val s := .agg s.cells
  ok s := s.fits
  lit s := litSg s
  law := Keyed.of_law lawSg
  has := keyOf_sg
  inj x y h := by
    obtain ⟨a, b, c⟩ := x
    obtain ⟨a', b', c'⟩ := y
    simp only [Sg.cells, Value.agg.injEq, Array.mk.injEq, List.cons.injEq, Value.int.injEq, true_and, and_true] at h
    simp only [Sg.mk.injEq]
    omega
end Go.Proofs.Ytobgbheodlpclaa
