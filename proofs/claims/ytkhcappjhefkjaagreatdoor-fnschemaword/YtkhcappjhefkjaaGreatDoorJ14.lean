/- The parts of a value's text, plain. -/
import Derived.Test.YtkhcappjhefkjaaGreatDoorQ8
namespace Go.Proofs.YtkhcappjhefkjaaGreatDoor
open Go.RowKit
set_option linter.unusedVariables false

def nullS : ByteArray := ⟨#[110, 117, 108, 108]⟩
def trueS : ByteArray := ⟨#[116, 114, 117, 101]⟩
def falseS : ByteArray := ⟨#[102, 97, 108, 115, 101]⟩
def quoS (t : ByteArray) : ByteArray := ⟨#[34]⟩ ++ t ++ ⟨#[34]⟩
def keyS (t : ByteArray) : ByteArray := ⟨#[34]⟩ ++ t ++ ⟨#[34, 58]⟩
def kidsP (form : Bool) (ns : List ByteArray) : Nat → List (List ByteArray) → List ByteArray
  | _, [] => []
  | j, x :: r => (if 0 < j then [⟨#[44]⟩] else []) ++ (if form = true then [keyS (ns.getD j ByteArray.empty)] else []) ++ x ++ kidsP form ns (j + 1) r
theorem kidsP_append (form : Bool) (ns : List ByteArray) : ∀ (a b : List (List ByteArray)) (j : Nat), kidsP form ns j (a ++ b) = kidsP form ns j a ++ kidsP form ns (j + a.length) b
  | [], b, j => by simp [kidsP]
  | x :: r, b, j => by
    have := kidsP_append form ns r b (j + 1)
    simp only [List.cons_append, kidsP, this, List.append_assoc, List.length_cons]
    have e : j + 1 + r.length = j + (r.length + 1) := by omega
    rw [e]
mutual
def parts : Js → List ByteArray
  | .mk k f t ns kids =>
    if k = 1 then [nullS] else if k = 2 then [if f = true then trueS else falseS] else if k = 3 then [t] else if k = 4 then [quoS t]
    else if k = 6 then ⟨#[123]⟩ :: (kidsP true ns 0 (partsL kids) ++ [⟨#[125]⟩])
    else ⟨#[91]⟩ :: (kidsP false ns 0 (partsL kids) ++ [⟨#[93]⟩])
def partsL : List Js → List (List ByteArray)
  | [] => []
  | p :: r => parts p :: partsL r
end
theorem partsL_map (kids : List Js) : partsL kids = kids.map parts := by
  induction kids with
  | nil => simp [partsL]
  | cons p r ih => simp [partsL, ih]
theorem parts_mk {k : Int} {f : Bool} {t : ByteArray} {ns : List ByteArray} {kids : List Js} : parts (.mk k f t ns kids) = if k = 1 then [nullS] else if k = 2 then [if f = true then trueS else falseS] else if k = 3 then [t] else if k = 4 then [quoS t]
    else if k = 6 then ⟨#[123]⟩ :: (kidsP true ns 0 (kids.map parts) ++ [⟨#[125]⟩])
    else ⟨#[91]⟩ :: (kidsP false ns 0 (kids.map parts) ++ [⟨#[93]⟩]) := by rw [parts, partsL_map]
def kidsPTo (form : Bool) (ns : List ByteArray) (kids : List Js) (j : Nat) : List ByteArray := kidsP form ns 0 ((kids.take j).map parts)
theorem kidsPTo_zero (form : Bool) (ns : List ByteArray) (kids : List Js) : kidsPTo form ns kids 0 = [] := by simp [kidsPTo, kidsP]
theorem kidsPTo_succ (form : Bool) (ns : List ByteArray) (kids : List Js) {j : Nat} (h : j < kids.length) :
    kidsPTo form ns kids (j + 1) = kidsPTo form ns kids j ++ ((if 0 < j then [⟨#[44]⟩] else []) ++ (if form = true then [keyS (ns.getD j ByteArray.empty)] else []) ++ parts kids[j]) := by
  unfold kidsPTo
  rw [List.take_succ_eq_append_getElem h, List.map_append, kidsP_append]
  simp [kidsP, Nat.min_eq_left (Nat.le_of_lt h)]
theorem kidsPTo_all (form : Bool) (ns : List ByteArray) (kids : List Js) : kidsPTo form ns kids kids.length = kidsP form ns 0 (kids.map parts) := by simp [kidsPTo]
theorem kidsPTo_pre (form : Bool) (ns : List ByteArray) (kids : List Js) (j : Nat) : kidsPTo form ns kids j <+: kidsP form ns 0 (kids.map parts) := by
  have e := kidsP_append form ns ((kids.take j).map parts) ((kids.drop j).map parts) 0
  rw [← List.map_append, List.take_append_drop] at e
  exact ⟨_, e.symm⟩

theorem keyS_bl (n : ByteArray) : bl (keyS n) = keyT n := by simp [keyS, keyT, bl]
theorem quoS_bl (n : ByteArray) : bl (quoS n) = quo (bl n) := by simp [quoS, quo, bl]
theorem kidsP_txt (form : Bool) (ns : List ByteArray) : ∀ (ls : List (List ByteArray)) (j : Nat), (kidsP form ns j ls).flatMap bl = kidsT form ns j (ls.map (fun x => x.flatMap bl))
  | [], j => by simp [kidsP, kidsT]
  | x :: r, j => by
    have ih := kidsP_txt form ns r (j + 1)
    simp only [kidsP, kidsT, List.map_cons, List.flatMap_append, ih]
    have e1 : (if 0 < j then [(⟨#[44]⟩ : ByteArray)] else []).flatMap bl = if 0 < j then [44] else [] := by split <;> simp [bl]
    have e2 : (if form = true then [keyS (ns.getD j ByteArray.empty)] else []).flatMap bl = if form = true then keyT (ns.getD j ByteArray.empty) else [] := by split <;> simp [keyS_bl]
    rw [e1, e2]
theorem parts_txt : ∀ (d : Nat) (p : Js), p.ht ≤ d → (parts p).flatMap bl = jtx p
  | 0, .mk k f t ns kids, h => by rw [htJ_mk] at h; omega
  | d + 1, .mk k f t ns kids, h => by
    rw [htJ_mk] at h
    have ih : (kids.map parts).map (fun x => x.flatMap bl) = kids.map jtx := by
      rw [List.map_map]
      exact List.map_congr_left (fun p hp => parts_txt d p (Nat.le_trans (htJ_mem hp) (by omega)))
    rw [parts_mk, jtx_mk]
    split
    · simp [bl, nullS, nullT]
    split
    · cases f <;> simp [bl, trueS, falseS, trueT, falseT]
    split
    · simp
    split
    · simp [quoS_bl]
    split
    · simp only [List.flatMap_cons, List.flatMap_append, kidsP_txt, ih]; simp [bl]
    · simp only [List.flatMap_cons, List.flatMap_append, kidsP_txt, ih]; simp [bl]

/-- A short string. -/
abbrev Sub := { s : ByteArray // s.size ≤ 100 }
def cl (s : ByteArray) : Sub := if h : s.size ≤ 100 then ⟨s, h⟩ else ⟨ByteArray.empty, by show (0 : Nat) ≤ 100; omega⟩
theorem cl_val {s : ByteArray} (h : s.size ≤ 100) : (cl s).1 = s := by unfold cl; rw [dif_pos h]
theorem cl_flat : ∀ {l : List ByteArray}, (∀ s ∈ l, s.size ≤ 100) → (l.map cl).flatMap (fun x => bl x.1) = l.flatMap bl
  | [], _ => rfl
  | s :: r, h => by
    have := cl_flat (l := r) (fun x hx => h x (List.mem_cons_of_mem _ hx))
    simp only [List.map_cons, List.flatMap_cons, this, cl_val (h s (List.mem_cons_self ..))]
theorem kidsP_small (form : Bool) (ns : List ByteArray) (hn : ∀ i (h : i < ns.length), ns[i].size ≤ 8) : ∀ (ls : List (List ByteArray)) (j : Nat), (∀ l ∈ ls, ∀ s ∈ l, s.size ≤ 100) → ∀ s ∈ kidsP form ns j ls, s.size ≤ 100
  | [], j, _ => by simp [kidsP]
  | x :: r, j, h => by
    intro s hs
    simp only [kidsP, List.mem_append] at hs
    rcases hs with ((hs | hs) | hs) | hs
    · split at hs
      · simp at hs; subst hs; decide
      · simp at hs
    · split at hs
      · simp only [List.mem_singleton] at hs
        subst hs
        have hg : (ns.getD j ByteArray.empty).size ≤ 8 := by
          rw [List.getD_eq_getElem?_getD]
          rcases Nat.lt_or_ge j ns.length with hj | hj
          · rw [List.getElem?_eq_getElem hj]; exact hn j hj
          · rw [List.getElem?_eq_none hj]; show (0 : Nat) ≤ 8; omega
        unfold keyS
        rw [sz_append, sz_append]
        have e1 : (⟨#[34]⟩ : ByteArray).size = 1 := rfl
        have e2 : (⟨#[34, 58]⟩ : ByteArray).size = 2 := rfl
        omega
      · simp at hs
    · exact h x (List.mem_cons_self ..) s hs
    · exact kidsP_small form ns hn r (j + 1) (fun l hl => h l (List.mem_cons_of_mem _ hl)) s hs
theorem parts_small : ∀ (d : Nat) (p : Js), p.ht ≤ d → JokP p → ∀ s ∈ parts p, s.size ≤ 100
  | 0, .mk k f t ns kids, h, _ => by rw [htJ_mk] at h; omega
  | d + 1, .mk k f t ns kids, h, ho => by
    rw [htJ_mk] at h
    have ih : ∀ l ∈ kids.map parts, ∀ s ∈ l, s.size ≤ 100 := fun l hl => by
      obtain ⟨p, hp, rfl⟩ := List.mem_map.1 hl
      exact parts_small d p (Nat.le_trans (htJ_mem hp) (by omega)) (ho.kids p hp)
    have k1 := kidsP_small true ns (one_names ho.one) _ 0 ih
    have k2 := kidsP_small false ns (one_names ho.one) _ 0 ih
    rw [parts_mk]
    rcases ho.one with ⟨rfl, _⟩ | ⟨rfl, _⟩ | ⟨rfl, _, h3, _⟩ | ⟨rfl, _, h3, _⟩ | ⟨rfl, _⟩ | ⟨rfl, _⟩
    · simp; decide
    · cases f <;> simp <;> decide
    · have := num_len h3
      simp; rw [bl_size]; omega
    · have := h3.1
      simp
      unfold quoS
      rw [sz_append, sz_append]
      have e1 : (⟨#[34]⟩ : ByteArray).size = 1 := rfl
      omega
    · intro s hs
      simp only [show ¬ (5 : Int) = 1 by omega, show ¬ (5 : Int) = 2 by omega, show ¬ (5 : Int) = 3 by omega, show ¬ (5 : Int) = 4 by omega, show ¬ (5 : Int) = 6 by omega, if_false, List.mem_cons, List.mem_append, List.not_mem_nil, or_false] at hs
      rcases hs with rfl | hs | rfl
      · decide
      · exact k2 s hs
      · decide
    · intro s hs
      simp only [show ¬ (6 : Int) = 1 by omega, show ¬ (6 : Int) = 2 by omega, show ¬ (6 : Int) = 3 by omega, show ¬ (6 : Int) = 4 by omega, if_false, if_true, List.mem_cons, List.mem_append, List.not_mem_nil, or_false] at hs
      rcases hs with rfl | hs | rfl
      · decide
      · exact k1 s hs
      · decide

end Go.Proofs.YtkhcappjhefkjaaGreatDoor

