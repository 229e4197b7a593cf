/-
  What MirrorLeft's and MirrorStays's walks ask of the plain side.
-/
import Derived.Test.YteoafohebgfjdaaGreatDoorMiLaw
namespace Go.Proofs.YteoafohebgfjdaaGreatDoor
open Go.RowKit Go.Maps
set_option maxRecDepth 100000

theorem told_once {S D G : List Nd} {del : Bool} {V : Ns → Pl} {l l' : List Fd} (h : LaidAt S D G del V) (hS : TW S) (hD : TW D) (hG : ∀ g ∈ G, g ∈ D) (ht : Told V l) (ht' : Told V l') : l'.map (·.node) = l.map (·.node) := by
  refine sorted_ext (ht'.sortedN h hS hD hG) (ht.sortedN h hS hD hG) fun n => ?_
  rw [List.mem_map, List.mem_map]
  constructor
  · rintro ⟨f, hf, rfl⟩
    exact ⟨f, (ht.iff f).2 ((ht'.iff f).1 hf), rfl⟩
  · rintro ⟨f, hf, rfl⟩
    exact ⟨f, (ht'.iff f).2 ((ht.iff f).1 hf), rfl⟩
/-- MirrorStays: what isn't sent might as well not be there. -/
theorem stays_sent {R : List (Bool × List UInt8)} {a b : List Nd} {del : Bool} {l l' : List Fd} (ha : TW a) (hb : TW b) (ht : Told (layV (sentL R a) (shownL b) (guardL R b) del) l) (ht' : Told (layV (sentL R (sentL R a)) (shownL b) (guardL R b) del) l') : l'.map (·.node) = l.map (·.node) := by
  rw [sent_sent] at ht'
  exact told_once (laid_trees R del ha hb) (ha.sent R) hb.shown (guard_sub R b) ht ht'
/-- MirrorLeft: what the program tells is what the reference tells. -/
theorem left_eq {R : List (Bool × List UInt8)} {b : List Nd} {del : Bool} {p : ByteArray} (hb : TW (shownL b)) : leftR R del p (shownL b) = if toL p = [] then [] else ((shownL b).filter (keepB (guardL R b) del)).filter fun n => okB n.path p := by
  by_cases hp : toL p = []
  · rw [if_pos hp]
    unfold leftR
    split
    · rfl
    · rw [if_pos (by rw [toL_empty]; exact hp)]
  · rw [if_neg hp]
    exact left_is hb hp
theorem okB_root {n : Nd} (h : rightB n.path) {p : ByteArray} (hp : toL p = []) : okB n.path p = true := by
  rw [okB_eq, hp]
  unfold withinB
  rw [Bool.and_eq_true, Bool.and_eq_true, List.isPrefixOf_iff_prefix]
  exact ⟨⟨h, rfl⟩, List.nil_prefix⟩
theorem side_root {K : List Nd} (h : ∀ n ∈ K, rightB n.path) {p : ByteArray} (hp : toL p = []) : sideL p true K = K := by
  rw [side_sub, List.filter_eq_self]
  exact fun n hn => okB_root (h n hn) hp
/-- The program's answers for what is left. -/
def leftP (G : List Nd) (del : Bool) (p : ByteArray) (D : List Nd) : List Nd := if toL p = [] then [] else (D.filter (keepB G del)).filter fun n => okB n.path p
def restP2 (R : List (Bool × List UInt8)) (del : Bool) (b : List Nd) : List Nd := (shownL b).filter (keepB (guardL R b) del)
theorem rest_tw (R : List (Bool × List UInt8)) (del : Bool) {b : List Nd} (hb : TW b) : TW (restP2 R del b) := hb.shown.keep _ _
theorem rest_rest (R : List (Bool × List UInt8)) (del : Bool) (b : List Nd) : restP2 R del (restP2 R del b) = restP2 R del b := rest_is R b del
theorem left_rest (R : List (Bool × List UInt8)) (del : Bool) (b : List Nd) {p : ByteArray} (hp : toL p ≠ []) : leftP (guardL R (restP2 R del b)) del p (shownL (restP2 R del b)) = sideL p true (restP2 R del b) := by
  unfold leftP
  rw [if_neg hp, side_sub]
  exact congrArg (List.filter fun n => okB n.path p) (rest_rest R del b)
theorem left_none (G : List Nd) (del : Bool) (D : List Nd) {p : ByteArray} (hp : toL p = []) : leftP G del p D = [] := if_pos hp
end Go.Proofs.YteoafohebgfjdaaGreatDoor
