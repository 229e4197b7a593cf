/-
  Texts that belong together: Suf, RefStands.
-/
import Derived.Test.YteoafohebgfjdaaGreatDoorAutoPathMoves
import Derived.Test.YteoafohebgfjdaaGreatDoorAutoPathName
import Derived.Test.YteoafohebgfjdaaGreatDoorAutoRefCore
import Derived.Deep.QuietTactic
import Derived.BigQuiet
import Derived.Test.YteoafohebgfjdaaGreatDoorAutoBytes
/-
  strings.CutSuffix and strings.Cut, for one byte.
-/
namespace Go.Proofs.YteoafohebgfjdaaGreatDoor
open Go.RowKit
set_option maxRecDepth 100000

/-- Does a text end with this byte? -/
def sufB (s : ByteArray) (c : UInt8) : Bool := (toL s).getLast? == some c
theorem sufB_pos {s : ByteArray} {c : UInt8} (h : sufB s c = true) : (1 : Int) ≤ s.size := by
  rcases Nat.eq_zero_or_pos s.size with h0 | h0
  · have hl : (toL s).length = s.size := by simp [toL]
    have : toL s = [] := List.length_eq_zero_iff.1 (by omega)
    unfold sufB at h
    rw [this] at h
    cases h
  · omega
theorem suf_tail (s : ByteArray) (m : Nat) (h : m + 1 = s.size) : (s.extract m s.size).toList = [s[m]'(by omega)] := by
  have hl : s.data.toList.length = s.size := by simp
  rw [Lib.toList_data, Lib.extract_data, List.take_of_length_le (by rw [List.length_drop]; omega), List.drop_eq_getElem_cons (by omega), List.drop_of_length_le (by omega)]
  rfl
theorem sufB_last (s : ByteArray) (c : UInt8) (m : Nat) (h : m + 1 = s.size) : sufB s c = (s[m]'(by omega) == c) := by
  unfold sufB
  rw [last_at s (by omega)]
  have e : s[s.size - 1]'(by omega) = s[m]'(by omega) := by
    have : s.size - 1 = m := by omega
    simp only [this]
  rw [e]
  simp
set_option maxHeartbeats 800000 in
theorem hasSuf_any (s : ByteArray) (c : UInt8) (w : World) (hs : (s.size : Int) ≤ 9223372036854775800) :
    Calls Tryz.prog 130 #[.string s, .string ⟨#[c]⟩] w fun e w' => e = .returned (.bool (sufB s c)) ∧ w' = w := by
  by_cases h0 : (1 : Int) ≤ s.size
  · obtain ⟨m, hm⟩ : ∃ m, m = s.size - 1 := ⟨_, rfl⟩
    have hm1 : m + 1 = s.size := by omega
    have hb := sufB_last s c m hm1
    have hmi : (s.size : Int) - 1 = (m : Int) := by omega
    have hmw : IntKind.i64.wrap (m : Int) = (m : Int) := IntWalk.i64_in _ (by omega)
    have hm0 : (0 : Int) ≤ m := by omega
    have hmle : (m : Int) ≤ s.size := by omega
    have ht : ((s.extract m s.size).toList == [c]) = sufB s c := by
      rw [suf_tail s m hm1, hb]
      simp
    obtain ⟨B, hB⟩ : ∃ B, B = sufB s c := ⟨_, rfl⟩
    rw [← hB] at ht ⊢
    clear hm hm1 hb hB
    go_enter Tryz.func130, Tryz.ntmps130
    go_wp2
    go_ret
    exact ⟨rfl, rfl⟩
  · have hB := hide (show sufB s c = false by
      cases h : sufB s c with
      | false => rfl
      | true => exact absurd (sufB_pos h) h0)
    go_enter Tryz.func130, Tryz.ntmps130
    go_wp2
    go_ret
    exact ⟨by rw [hB.out]; rfl, rfl⟩

/-- A text without this byte at its end. -/
def cutE (s : ByteArray) (c : UInt8) : ByteArray := if sufB s c then s.extract 0 (s.size - 1) else s
set_option maxHeartbeats 800000 in
theorem slCutSuf_any (s : ByteArray) (c : UInt8) (w : World) (hs : (s.size : Int) ≤ 9223372036854775800) :
    Calls Tryz.prog 122 #[.string s, .string ⟨#[c]⟩] w fun e w' => e = .returned (.tuple #[.string (cutE s c), .bool (sufB s c)]) ∧ w' = w := by
  obtain ⟨B, hB⟩ : ∃ B, B = sufB s c := ⟨_, rfl⟩
  have HS := hide (hasSuf_any s c w hs)
  have hpos : B = true → (1 : Int) ≤ s.size := fun h => sufB_pos (hB ▸ h)
  unfold cutE
  obtain ⟨m, hm⟩ : ∃ m, m = s.size - 1 := ⟨_, rfl⟩
  rw [← hB] at HS ⊢
  rw [← hm]
  have HM := hide hm
  clear hB hm
  go_enter Tryz.func122, Tryz.ntmps122
  go_wp2_with fail
  refine (HS.out).mono ?_
  rintro e w1 ⟨rfl, rfl⟩
  cases B with
  | true =>
    have h1 := hpos rfl
    have hmi : (s.size : Int) - 1 = (m : Int) := by have := HM.out; omega
    have hmw : IntKind.i64.wrap (m : Int) = (m : Int) := IntWalk.i64_in _ (by omega)
    have hm0 : (0 : Int) ≤ m := by omega
    have hmle : (m : Int) ≤ s.size := by omega
    clear hpos
    go_wp2
    exact bodyPost_ret (results_tmp2 rfl _ _ _) rfl ⟨by simp, rfl⟩
  | false =>
    clear hpos
    go_wp2
    exact bodyPost_ret (results_tmp2 rfl _ _ _) rfl ⟨by simp, rfl⟩
set_option maxHeartbeats 400000 in
theorem cutSuf_any (s : ByteArray) (c : UInt8) (w : World) (hs : (s.size : Int) ≤ 9223372036854775800) :
    Calls Tryz.prog 114 #[.string s, .string ⟨#[c]⟩] w fun e w' => e = .returned (.tuple #[.string (cutE s c), .bool (sufB s c)]) ∧ w' = w := by
  go_enter Tryz.func114, Tryz.ntmps114
  go_wp2_with fail
  refine (slCutSuf_any s c _ hs).mono ?_
  rintro e w1 ⟨rfl, rfl⟩
  go_wp2
  exact bodyPost_ret (results_tmp2 rfl _ _ _) rfl ⟨rfl, rfl⟩

/-- What stands ahead of the first such byte, and behind it; all and nothing, if there is none. -/
theorem index_cases (l : List UInt8) (c : UInt8) : Lib.indexByte l c = -1 ∨ ∃ o : Nat, Lib.indexByte l c = o := by
  have := Lib.indexByte_ge l c
  rcases Int.lt_or_le (Lib.indexByte l c) 0 with h | h
  · exact .inl (by omega)
  · exact .inr ⟨(Lib.indexByte l c).toNat, by omega⟩
set_option maxHeartbeats 1600000 in
theorem slCut_some (s : ByteArray) (c : UInt8) (o : Nat) (ho : Lib.indexByte s.data.toList c = o) (w : World) (hs : (s.size : Int) ≤ 9223372036854775800) (hos : o < s.size) :
    Calls Tryz.prog 136 #[.string s, .string ⟨#[c]⟩] w fun e w' => e = .returned (.tuple #[.string (s.extract 0 o), .string (s.extract (o + 1) s.size), .bool true]) ∧ ∃ n, w' = w.drewN n := by
  have HI := hide (slIndex_any s c w)
  rw [ho] at HI
  clear ho
  have h1 : IntKind.i64.wrap ((o : Int) + 1) = ((o + 1 : Nat) : Int) := by rw [IntWalk.i64_in _ (by omega)]; rfl
  have h2 : (0 : Int) ≤ o := by omega
  have h3 : (o : Int) ≤ s.size := by omega
  have h4 : ((o + 1 : Nat) : Int) ≤ s.size := by omega
  have h5 : (0 : Int) ≤ ((o + 1 : Nat) : Int) := by omega
  go_enter Tryz.func136, Tryz.ntmps136
  go_wp2_with fail
  refine (HI.out).mono ?_
  rintro e w1 ⟨rfl, rfl⟩
  go_wp2_with fail
  go_quiet (fail)
  go_wp2
  exact bodyPost_ret (v := .tuple #[.string (s.extract 0 o), .string (s.extract (o + 1) s.size), .bool true]) (by simp [results, Tryz.results136, go_sem]) rfl ⟨rfl, _, rfl⟩
set_option maxHeartbeats 1600000 in
theorem slCut_none (s : ByteArray) (c : UInt8) (ho : Lib.indexByte s.data.toList c = -1) (w : World) :
    Calls Tryz.prog 136 #[.string s, .string ⟨#[c]⟩] w fun e w' => e = .returned (.tuple #[.string s, .string ⟨#[]⟩, .bool false]) ∧ ∃ n, w' = w.drewN n := by
  have HI := hide (slIndex_any s c w)
  rw [ho] at HI
  clear ho
  go_enter Tryz.func136, Tryz.ntmps136
  go_wp2_with fail
  refine (HI.out).mono ?_
  rintro e w1 ⟨rfl, rfl⟩
  go_wp2_with fail
  exact bodyPost_ret (v := .tuple #[.string s, .string ⟨#[]⟩, .bool false]) (by simp [results, Tryz.results136, go_sem]) rfl ⟨rfl, 0, rfl⟩
theorem index_lt {s : ByteArray} {c : UInt8} {o : Nat} (ho : Lib.indexByte s.data.toList c = o) : o < s.size := by
  have h := (Lib.indexByte_some ho).1
  have := (List.getElem?_eq_some_iff.1 h).1
  simpa using this
set_option maxHeartbeats 800000 in
theorem cut_none (s : ByteArray) (c : UInt8) (ho : Lib.indexByte s.data.toList c = -1) (w : World) :
    Calls Tryz.prog 125 #[.string s, .string ⟨#[c]⟩] w fun e w' => e = .returned (.tuple #[.string s, .string ⟨#[]⟩, .bool false]) ∧ ∃ n, w' = w.drewN n := by
  have HI := hide (slCut_none s c ho w)
  clear ho
  go_enter Tryz.func125, Tryz.ntmps125
  go_wp2_with fail
  refine (HI.out).mono ?_
  rintro e w1 ⟨rfl, n, rfl⟩
  go_wp2_with fail
  exact bodyPost_ret (v := .tuple #[.string s, .string ⟨#[]⟩, .bool false]) (by simp [results, Tryz.results125, go_sem]) rfl ⟨rfl, n, rfl⟩
set_option maxHeartbeats 800000 in
theorem cut_some (s : ByteArray) (c : UInt8) (o : Nat) (ho : Lib.indexByte s.data.toList c = o) (w : World) (hs : (s.size : Int) ≤ 9223372036854775800) :
    Calls Tryz.prog 125 #[.string s, .string ⟨#[c]⟩] w fun e w' => e = .returned (.tuple #[.string (s.extract 0 o), .string (s.extract (o + 1) s.size), .bool true]) ∧ ∃ n, w' = w.drewN n := by
  have HI := hide (slCut_some s c o ho w hs (index_lt ho))
  clear ho
  go_enter Tryz.func125, Tryz.ntmps125
  go_wp2_with fail
  refine (HI.out).mono ?_
  rintro e w1 ⟨rfl, n, rfl⟩
  go_wp2_with fail
  exact bodyPost_ret (v := .tuple #[.string (s.extract 0 o), .string (s.extract (o + 1) s.size), .bool true]) (by simp [results, Tryz.results125, go_sem]) rfl ⟨rfl, n, rfl⟩
end Go.Proofs.YteoafohebgfjdaaGreatDoor
/-
  The reference's parts: okay, stands.
-/
namespace Go.Proofs.YteoafohebgfjdaaGreatDoor
open Go.RowKit
set_option maxRecDepth 100000

/-- A part of the reference's: how many bytes, the set, and what it says of it. -/
structure RPart where
  many : Int
  ins : List UInt8
  no : Bool
  any : Bool
/-- As a value: the set lies at an address. -/
def RPart.V (p : RPart) (A : Option Addr) (c : Nat) : Value := .agg #[.int .i64 p.many, .slice A p.ins.length c, .bool p.no, .bool p.any]
/-- Is a byte there? -/
def hasB (l : List UInt8) (x : UInt8) : Bool := l.contains x
/-- May a part that stands for one byte stand for this one? -/
def standsR (p : RPart) (x : UInt8) : Bool := if p.any then !(x == 47) else if p.no then !hasB p.ins x && !(x == 47) else hasB p.ins x
theorem beq47 (x : UInt8) : ((x.toNat : Int) != 47) = !(x == 47) := by
  rw [Bool.eq_iff_iff]
  simp only [bne_iff_ne, Bool.not_eq_true', beq_eq_false_iff_ne]
  constructor
  · rintro h rfl; exact h rfl
  · intro h e; exact h (UInt8.toNat_inj.1 (by have : (47 : UInt8).toNat = 47 := rfl; omega))
theorem contains_take (l : List UInt8) (x : UInt8) (k : Nat) (h : k < l.length) : hasB (l.take (k + 1)) x = (hasB (l.take k) x || (l[k] == x)) := by
  unfold hasB
  rw [← List.take_append_getElem h, Bool.eq_iff_iff]
  simp only [List.contains_iff_mem, List.mem_append, List.mem_singleton, Bool.or_eq_true, beq_iff_eq]
  exact or_congr Iff.rfl ⟨fun e => e.symm, fun e => e.symm⟩

set_option maxHeartbeats 2000000 in
theorem okay_any (x : UInt8) (w : World) :
    Calls Tryz.prog 111 #[.int .u8 x.toNat] w fun e w' => e = .returned (.bool (!(x == 93) && !(x == 91) && !(x == 47) && !(x == 92))) ∧ w' = w := by
  have e1 : ∀ n : UInt8, ((x.toNat : Int) == (n.toNat : Int)) = (x == n) := fun n => by
    rw [Bool.eq_iff_iff]
    simp only [beq_iff_eq]
    constructor
    · intro h; exact UInt8.toNat_inj.1 (by omega)
    · rintro rfl; rfl
  have a1 := e1 93
  have a2 := e1 91
  have a3 := e1 47
  have a4 := e1 92
  rw [show ((93 : UInt8).toNat : Int) = 93 from rfl] at a1
  rw [show ((91 : UInt8).toNat : Int) = 91 from rfl] at a2
  rw [show ((47 : UInt8).toNat : Int) = 47 from rfl] at a3
  rw [show ((92 : UInt8).toNat : Int) = 92 from rfl] at a4
  have b1 : ((x.toNat : Int) != 93) = !(x == 93) := by rw [← a1]; rfl
  have b2 : ((x.toNat : Int) != 91) = !(x == 91) := by rw [← a2]; rfl
  have b3 : ((x.toNat : Int) != 47) = !(x == 47) := by rw [← a3]; rfl
  have b4 : ((x.toNat : Int) != 92) = !(x == 92) := by rw [← a4]; rfl
  clear a1 a2 a3 a4 e1
  cases c1 : (x == 93)
  case true =>
    rw [c1] at b1
    go_enter Tryz.func111, Tryz.ntmps111
    clear b2 b3 b4
    go_wp2_with fail
    exact bodyPost_ret (results_tmp rfl _ _ _) rfl ⟨rfl, rfl⟩
  case false =>
  cases c2 : (x == 91)
  case true =>
    rw [c1] at b1; rw [c2] at b2
    go_enter Tryz.func111, Tryz.ntmps111
    clear b3 b4
    go_wp2_with fail
    exact bodyPost_ret (results_tmp rfl _ _ _) rfl ⟨rfl, rfl⟩
  case false =>
  cases c3 : (x == 47)
  case true =>
    rw [c1] at b1; rw [c2] at b2; rw [c3] at b3
    go_enter Tryz.func111, Tryz.ntmps111
    clear b4
    go_wp2_with fail
    exact bodyPost_ret (results_tmp rfl _ _ _) rfl ⟨rfl, rfl⟩
  case false =>
    rw [c1] at b1; rw [c2] at b2; rw [c3] at b3
    go_enter Tryz.func111, Tryz.ntmps111
    go_wp2_with fail
    exact bodyPost_ret (results_tmp rfl _ _ _) rfl ⟨rfl, rfl⟩

set_option maxHeartbeats 4000000 in
theorem stands_any (p : RPart) (A : Option Addr) (c : Nat) (x : UInt8) (w : World) (hR : RdB w w.heap.size A p.ins) (hl : p.ins.length ≤ 100000) :
    Calls Tryz.prog 104 #[p.V A c, .int .u8 x.toNat] w fun e w' => e = .returned (.bool (standsR p x)) ∧ Below w.heap.size w w' := by
  obtain ⟨many, ins, no, any⟩ := p
  unfold RPart.V standsR
  simp only at hR hl ⊢
  have hb := beq47 x
  have hli : (ins.length : Int) ≤ 100000 := by omega
  have hB : Below w.heap.size w (w.alloc (.cells #[.int .i64 many, .slice A ins.length c, .bool no, .bool any] 121)) := (Below.refl _ w).alloc (Nat.le_refl _) _
  have r := World.alloc_heap_new w (Obj.cells #[.int .i64 many, .slice A ins.length c, .bool no, .bool any] 121)
  have hR1 := hR.below hB (Nat.le_refl _)
  cases any with
  | true =>
    go_enter Tryz.func104, Tryz.ntmps104
    go_wp2_with fail
    exact bodyPost_ret (results_tmp rfl _ _ _) rfl ⟨rfl, hB⟩
  | false =>
    go_enter Tryz.func104, Tryz.ntmps104
    go_wp2_with fail
    generalize (w.alloc (.cells #[.int .i64 many, .slice A ins.length c, .bool no, .bool false] 121)) = w2 at hB r hR1 ⊢
    have c1 : w2.cell? ⟨w.heap.size, 1, none⟩ = some (.slice A ins.length c) := cell_of_row _ _ _ _ _ _ r
    have c2 : w2.cell? ⟨w.heap.size, 2, none⟩ = some (.bool no) := cell_of_row _ _ _ _ _ _ r
    have HB := hide hB
    clear r hB hR
    go_loopw [5, 6] (fun b i wr => ∃ k : Nat, k ≤ ins.length ∧ i = .int .i64 k ∧ b = .bool (hasB (ins.take k) x) ∧ wr = w2) (fun _ i _ => ins.length - (intOf i).toNat)
    case atStart => exact ⟨0, Nat.zero_le _, rfl, rfl, rfl⟩
    case round =>
      obtain ⟨k, hk, rfl, rfl, rfl⟩ := hrel
      by_cases hlt : (k : Int) < ins.length
      · have hkl : k < ins.length := by omega
        obtain ⟨ad, rfl, _, cy⟩ := hR1 k _ (List.getElem?_eq_getElem hkl)
        have HT := hide (contains_take ins x k hkl)
        generalize ins[k] = y at cy HT
        have cy : wr.cell? (ad.add k) = some (.int .u8 (y.toNat : Int)) := cy
        by_cases hxy : y = x
        · subst hxy
          have HE := hide (show hasB (ins.take (k + 1)) y = true by rw [HT.out]; simp)
          clear HT hb
          go_wp2_with fail
          rename_i K0 aK
          change K0 (Act.put _ (some 24) (.bool ((y.toNat : Int) == (y.toNat : Int)))) wr
          rw [beq_self_eq_true]
          go_wp2_with fail
          go_roundw
          case rel => exact ⟨k + 1, hkl, rfl, by rw [HE.out], trivial⟩
          case measure => simp [intOf]; omega
        · have hne : ¬ (y.toNat : Int) = (x.toNat : Int) := fun e => hxy (UInt8.toNat_inj.1 (by omega))
          have HE := hide (show hasB (ins.take (k + 1)) x = hasB (ins.take k) x by rw [HT.out]; simp [hxy])
          have E : ((y.toNat : Int) == (x.toNat : Int)) = false := by rw [beq_eq_false_iff_ne]; exact hne
          clear hxy HT hb
          go_wp2_with fail
          rename_i K0 aK
          change K0 (Act.put _ (some 24) (.bool ((y.toNat : Int) == (x.toNat : Int)))) wr
          rw [E]
          go_wp2_with fail
          go_roundw
          case rel => exact ⟨k + 1, hkl, rfl, by rw [HE.out], trivial⟩
          case measure => simp [intOf]; omega
      · obtain rfl : k = ins.length := by omega
        rw [List.take_length]
        cases hc : hasB ins x <;> cases no <;> (
          go_wp2_with fail
          refine bodyPost_ret (results_tmp rfl _ _ _) rfl ⟨?_, HB.out⟩
          first
            | rfl
            | (simp only [hc]; rfl)
            | (simp only [hc, hb]; rfl))
end Go.Proofs.YteoafohebgfjdaaGreatDoor
