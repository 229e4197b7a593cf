/-
  link.New; (*Link).Send, Deliver, Drop, Double.
-/
import Derived.Test.YtfknfpngcnianaaLkOn
namespace Go.Proofs.Ytfknfpngcnianaa
open Go.RowKit
set_option maxRecDepth 100000

def zeroQ : List Value := (List.replicate 16 [Value.string ⟨#[]⟩, Value.bool false]).flatten ++ [.int .i64 0, .int .i64 0, .int .i64 0]
def zeroC : Array Value := (zeroQ ++ zeroQ).toArray
def emptyQ : Way := ⟨[], 0, 0⟩
theorem lt16 {i : Nat} (h : i < 16) : i = 0 ∨ i = 1 ∨ i = 2 ∨ i = 3 ∨ i = 4 ∨ i = 5 ∨ i = 6 ∨ i = 7 ∨ i = 8 ∨ i = 9 ∨ i = 10 ∨ i = 11 ∨ i = 12 ∨ i = 13 ∨ i = 14 ∨ i = 15 := by omega
theorem zero_at0 : QAt zeroC 0 emptyQ :=
  ⟨fun i hi => by rcases lt16 hi with rfl | rfl | rfl | rfl | rfl | rfl | rfl | rfl | rfl | rfl | rfl | rfl | rfl | rfl | rfl | rfl <;> rfl,
   fun i hi => by rcases lt16 hi with rfl | rfl | rfl | rfl | rfl | rfl | rfl | rfl | rfl | rfl | rfl | rfl | rfl | rfl | rfl | rfl <;> rfl, rfl, rfl, rfl⟩
theorem zero_at1 : QAt zeroC 35 emptyQ :=
  ⟨fun i hi => by rcases lt16 hi with rfl | rfl | rfl | rfl | rfl | rfl | rfl | rfl | rfl | rfl | rfl | rfl | rfl | rfl | rfl | rfl <;> rfl,
   fun i hi => by rcases lt16 hi with rfl | rfl | rfl | rfl | rfl | rfl | rfl | rfl | rfl | rfl | rfl | rfl | rfl | rfl | rfl | rfl <;> rfl, rfl, rfl, rfl⟩
theorem zero_one : ∀ v ∈ zeroC.toList, v.oneCell' = true := by
  intro v hv
  have h : v = .string ⟨#[]⟩ ∨ v = .bool false ∨ v = .int .i64 0 := by
    have e : zeroC.toList = zeroQ ++ zeroQ := rfl
    rw [e] at hv
    have h2 : v ∈ zeroQ := by
      rcases List.mem_append.1 hv with h | h <;> exact h
    unfold zeroQ at h2
    rcases List.mem_append.1 h2 with h | h
    · obtain ⟨l, hl, hv⟩ := List.mem_flatten.1 h
      obtain ⟨_, rfl⟩ := List.mem_replicate.1 hl
      simp at hv
      rcases hv with rfl | rfl <;> simp
    · simp at h
      subst h; simp
  rcases h with rfl | rfl | rfl <;> rfl
theorem zero_link (w : World) : Sem.run Try.prog (zeroValue 56) w = .ok (.agg zeroC) w := by kernel_rfl
set_option maxHeartbeats 1000000 in
theorem new_any (w : World) : Calls Try.prog 7 #[] w fun e w' => e = .returned (.pointer (some ⟨w.heap.size, 0, none⟩)) ∧ w' = w.alloc (.cells zeroC 56) := by
  have hz := zero_link
  have hs : zeroC.size = 70 := rfl
  generalize zeroC = Z at hz hs ⊢
  go_enter Try.func7, Try.ntmps7
  go_wp2_with fail
  exact bodyPost_ret (results_tmp rfl _ _ _) rfl ⟨rfl, rfl⟩

theorem QTo.below {w w1 w2 : World} {g o : Nat} {C : Array Value} {q : Way} (h : QTo w g o C q w1) (hB : Below w1.heap.size w1 w2) : QTo w g o C q w2 := by
  obtain ⟨D, h1, h2, h3, h4⟩ := h
  exact ⟨D, h1.below hB, h2.alloc hB, h3, h4⟩
set_option maxHeartbeats 2000000 in
theorem send_none (P V : Value) (k : Int) (w : World) (H : On P k none) : Calls Try.prog 13 #[P, .int .i64 k, V] w fun e w' => e = .returned (.tuple #[]) ∧ w' = w := by
  have HH := hide H
  clear H
  go_enter Try.func13, Try.ntmps13
  go_wp2_with fail
  refine (HH.out _).mono ?_
  rintro e w1 ⟨rfl, rfl⟩
  go_wp2_with fail
  go_end0
  exact ⟨rfl, rfl⟩
set_option maxHeartbeats 2000000 in
theorem send_in (P : Value) (k : Int) (g o : Nat) (C : Array Value) (q : Way) (V : Value) (l : List UInt8) (w : World) (H : On P k (some ⟨g, o, none⟩)) (h : In w g o C q) (hl : q.lost ≤ 1000000) (hs : q.sent ≤ 1000000)
    (hc : ∀ W D, To w g D W → (convert 41 9 V).run Try.prog W = .ok (.string (ofL l)) W) :
    Calls Try.prog 13 #[P, .int .i64 k, V] w fun e w' => e = .returned (.tuple #[]) ∧ QTo w g o C (({ q with sent := q.sent + 1 } : Way).put ⟨l, false⟩) w' := by
  have HH := hide H
  have hs2 : (q.sent : Int) ≤ 1000000 := by omega
  have c33 : w.cell? ⟨g, o + 33, none⟩ = some (.int .i64 q.sent) := (cell_of_row _ _ _ _ _ _ h.row).trans h.at_.sent
  have z33 : w.frozen? ⟨g, o + 33, none⟩ = false := frozen_of_row _ _ _ _ _ h.row
  have hT := (To.start h.row).set (o + 33) (.int .i64 ((q.sent : Int) + 1))
  have hI : In (w.setCell ⟨g, o + 33, none⟩ (.int .i64 ((q.sent : Int) + 1))) g o (C.setIfInBounds (o + 33) (.int .i64 ((q.sent : Int) + 1))) { q with sent := q.sent + 1 } :=
    ⟨hT.1, by rw [Array.size_setIfInBounds]; exact h.size, one_set h.one _ _ rfl, h.at_.send h.size (q.sent + 1), h.few⟩
  have hcv := hc _ _ hT
  have HA := hide (add_any g o _ _ ⟨l, false⟩ _ hI hl)
  have HX := hide hT
  clear H h hc hI hT hl hs
  go_enter Try.func13, Try.ntmps13
  go_wp2_with fail
  refine (HH.out _).mono ?_
  rintro e w1 ⟨rfl, rfl⟩
  go_wp2_with fail
  refine HA.out.mono ?_
  rintro e w2 ⟨rfl, hQ⟩
  have HQ := hide hQ
  clear hQ
  go_wp2_with fail
  go_end0
  exact ⟨rfl, QTo.trans HX.out (by rw [Array.size_setIfInBounds]) (fun j hj => get_ne (by omega)) HQ.out⟩

set_option maxHeartbeats 2000000 in
theorem deliver_none (P : Value) (k i : Int) (w : World) (H : At P k i none w) : Calls Try.prog 14 #[P, .int .i64 k, .int .i64 i] w fun e w' => e = .returned (.tuple #[.slice none 0 0, .bool false]) ∧ w' = w := by
  have HH := hide H
  clear H
  go_enter Try.func14, Try.ntmps14
  go_wp2_with fail
  refine HH.out.mono ?_
  rintro e w1 ⟨rfl, rfl⟩
  go_wp2_with fail
  exact bodyPost_ret (results_tmp2 rfl _ _ _) rfl ⟨rfl, rfl⟩
/-- What is delivered: a slice of a packet's bytes. -/
def Sent (w : World) (g o : Nat) (C : Array Value) (q : Way) (l : List UInt8) (e : Ending) (w' : World) : Prop :=
  ∃ A c, e = .returned (.tuple #[.slice A l.length c, .bool true]) ∧ RdB w' w'.heap.size A l ∧ QTo w g o C q w'
theorem field_pk (a b : Value) (W : World) : (Instr.field 50 (.agg #[a, b]) 0).run Try.prog W = .ok a W := by kernel_rfl
set_option maxHeartbeats 2000000 in
theorem deliver_in (P : Value) (k : Int) (i g o : Nat) (C : Array Value) (q : Way) (p : Pk) (w : World) (H : At P k i (some ⟨g, o, none⟩) w) (h : In w g o C q) (hi : i < q.l.length) (hp : q.l[i]? = some p) :
    Calls Try.prog 14 #[P, .int .i64 k, .int .i64 i] w (Sent w g o C (q.took i) p.b) := by
  have HH := hide H
  have hd : q.dat i = ofL p.b := by unfold Way.dat; rw [hp]; rfl
  have HT := hide (take_any g o i C q w h.row h.size h.one h.at_ hi h.few)
  rw [hd] at HT
  have hI : ∀ W, To w g (tookC C o i q.l.length) W → In W g o (tookC C o i q.l.length) (q.took i) := fun W hW => ⟨hW.1, by rw [tookC_size _ _ _ _ hi h.few h.size]; exact h.size, tookC_one _ _ _ _ h.one, tookC_ok _ _ _ _ h.at_ hi h.few h.size, by rw [took_len _ _ hi]; have := h.few; omega⟩
  have hQ : ∀ W, To w g (tookC C o i q.l.length) W → QTo w g o C (q.took i) W := fun W hW => ⟨_, hW, hI W hW, tookC_size _ _ _ _ hi h.few h.size, fun j hj => tookC_off _ _ _ _ _ hi h.few h.size hj⟩
  have HQ := hide hQ
  have hcv := fun W : World => Lib.run_convert_string_bytes (P := Try.prog) W 9 41 5 (ofL p.b) Try.underlying9 Try.underlying41 Try.underlying5
  have HM := hide (fun W => made_bytes W (ofL p.b))
  have HLn := hide (ofL_size p.b)
  have HTo := hide (toL_ofL p.b)
  generalize ofL p.b = S at HT hcv HM HLn HTo
  clear H h hI hQ hd hp hi
  go_enter Try.func14, Try.ntmps14
  go_wp2_with fail
  refine HH.out.mono ?_
  rintro e w1 ⟨rfl, rfl⟩
  go_wp2_with fail
  refine HT.out.mono ?_
  rintro e w2 ⟨rfl, hT⟩
  have hcv2 := hcv w2
  have hfd := fun a b => field_pk a b w2
  clear hcv
  have HX := hide (HQ.out w2 hT)
  clear hT
  go_wp2_with fail
  have hm := HM.out w2
  rw [HTo.out] at hm
  refine bodyPost_ret (results_tmp2 rfl _ _ _) rfl ?_
  exact ⟨some ⟨w2.heap.size, 0, none⟩, grownCap w2 S.size 0 5, by rw [← HLn.out]; rfl, hm.1, HX.out.below hm.2⟩

set_option maxHeartbeats 2000000 in
theorem drop_none (P : Value) (k i : Int) (w : World) (H : At P k i none w) : Calls Try.prog 15 #[P, .int .i64 k, .int .i64 i] w fun e w' => e = .returned (.bool false) ∧ w' = w := by
  have HH := hide H
  clear H
  go_enter Try.func15, Try.ntmps15
  go_wp2_with fail
  refine HH.out.mono ?_
  rintro e w1 ⟨rfl, rfl⟩
  go_wp2_with fail
  exact bodyPost_ret (results_tmp rfl _ _ _) rfl ⟨rfl, rfl⟩
set_option maxHeartbeats 2000000 in
theorem drop_in (P : Value) (k : Int) (i g o : Nat) (C : Array Value) (q : Way) (w : World) (H : At P k i (some ⟨g, o, none⟩) w) (h : In w g o C q) (hi : i < q.l.length) (hl : q.lost ≤ 1000000) :
    Calls Try.prog 15 #[P, .int .i64 k, .int .i64 i] w fun e w' => e = .returned (.bool true) ∧ QTo w g o C (q.lose i) w' := by
  have HH := hide H
  have HT := hide (lose_any g o i C q w h hi hl)
  clear H h hi hl
  go_enter Try.func15, Try.ntmps15
  go_wp2_with fail
  refine HH.out.mono ?_
  rintro e w1 ⟨rfl, rfl⟩
  go_wp2_with fail
  refine HT.out.mono ?_
  rintro e w2 ⟨rfl, hT⟩
  have HX := hide hT
  clear hT
  go_wp2_with fail
  exact bodyPost_ret (results_tmp rfl _ _ _) rfl ⟨rfl, HX.out⟩

set_option maxHeartbeats 2000000 in
theorem double_none (P : Value) (k i : Int) (w : World) (H : At P k i none w) : Calls Try.prog 16 #[P, .int .i64 k, .int .i64 i] w fun e w' => e = .returned (.bool false) ∧ w' = w := by
  have HH := hide H
  clear H
  go_enter Try.func16, Try.ntmps16
  go_wp2_with fail
  refine HH.out.mono ?_
  rintro e w1 ⟨rfl, rfl⟩
  go_wp2_with fail
  exact bodyPost_ret (results_tmp rfl _ _ _) rfl ⟨rfl, rfl⟩
set_option maxHeartbeats 2000000 in
theorem double_in (P : Value) (k : Int) (i g o : Nat) (C : Array Value) (q : Way) (p : Pk) (w : World) (H : At P k i (some ⟨g, o, none⟩) w) (h : In w g o C q) (hi : i < q.l.length) (hp : q.l[i]? = some p) (hl : q.lost ≤ 1000000) :
    Calls Try.prog 16 #[P, .int .i64 k, .int .i64 i] w fun e w' => e = .returned (.bool true) ∧ QTo w g o C (q.put p) w' := by
  have HH := hide H
  have hd : q.dat i = ofL p.b := by unfold Way.dat; rw [hp]; rfl
  have ht : q.trn i = p.t := by unfold Way.trn; rw [hp]; rfl
  have HT := hide (add_any g o C q p w h hl)
  obtain ⟨h0, h1, _⟩ := h.at_.cells h.row
  have c0 := h0 i (by have := h.few; omega)
  have c1 := h1 i (by have := h.few; omega)
  rw [hd] at c0
  rw [ht] at c1
  have hi16 : (i : Int) < 16 := by have := h.few; omega
  clear H h hi hl h0 h1 hd ht hp
  go_enter Try.func16, Try.ntmps16
  go_wp2_with fail
  refine HH.out.mono ?_
  rintro e w1 ⟨rfl, rfl⟩
  go_wp2_with fail
  refine HT.out.mono ?_
  rintro e w2 ⟨rfl, hT⟩
  have HX := hide hT
  clear hT
  go_wp2_with fail
  exact bodyPost_ret (results_tmp rfl _ _ _) rfl ⟨rfl, HX.out⟩
end Go.Proofs.Ytfknfpngcnianaa
