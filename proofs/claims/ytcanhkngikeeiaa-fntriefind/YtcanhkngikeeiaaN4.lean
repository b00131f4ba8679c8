/- Whether nodes are a tree: l1Tree and isTree. -/
import Derived.Test.YtcanhkngikeeiaaN3
namespace Go.Proofs.Ytcanhkngikeeiaa
open Go.RowKit
set_option linter.unusedVariables false

/-- The kids of one node: each stands behind it, and has no node yet. -/
def kidsGo (n node : Nat) : List Int → List Bool → Option (List Bool)
  | [], s => some s
  | x :: xs, s => if (node : Int) < x ∧ x < n ∧ s.getD x.toNat false = false then kidsGo n node xs (s.set x.toNat true) else none
def treeGo (n : Nat) : Nat → List Node → List Bool → Option (List Bool)
  | _, [], s => some s
  | i, nd :: rest, s => (kidsGo n i nd.kids s).bind (treeGo n (i + 1) rest)
def treeT (ns : List Node) : Option (List Bool) := treeGo ns.length 0 ns (List.replicate ns.length false)
def treeB (ns : List Node) : Bool := decide (1 ≤ ns.length) && decide (ns.length ≤ 241) && (treeT ns).isSome

theorem kidsGo_in {n node : Nat} : ∀ {xs : List Int} {s t : List Bool}, kidsGo n node xs s = some t → ∀ x ∈ xs, (node : Int) < x ∧ x < n
  | [], _, _, _, x, hx => by cases hx
  | y :: ys, s, t, h, x, hx => by
    unfold kidsGo at h
    split at h
    · rename_i hc
      rcases List.mem_cons.1 hx with rfl | hx
      · exact ⟨hc.1, hc.2.1⟩
      · exact kidsGo_in h x hx
    · cases h
theorem treeGo_in {n : Nat} : ∀ {ns : List Node} {i : Nat} {s t : List Bool}, treeGo n i ns s = some t → ∀ nd ∈ ns, ∀ x ∈ nd.kids, (0 : Int) < x ∧ x < n
  | [], _, _, _, _, nd, hn => by cases hn
  | m :: ms, i, s, t, h, nd, hn => by
    unfold treeGo at h
    rcases hk : kidsGo n i m.kids s with _ | s'
    · rw [hk] at h; cases h
    · rw [hk] at h
      rcases List.mem_cons.1 hn with rfl | hn
      · intro x hx
        have := kidsGo_in hk x hx
        omega
      · exact treeGo_in h nd hn
theorem treeB_in {ns : List Node} (h : treeB ns = true) : 1 ≤ ns.length ∧ ns.length ≤ 241 ∧ ∀ nd ∈ ns, ∀ x ∈ nd.kids, (0 : Int) < x ∧ x < ns.length := by
  simp only [treeB, Bool.and_eq_true, decide_eq_true_eq] at h
  obtain ⟨t, ht⟩ := Option.isSome_iff_exists.1 h.2
  exact ⟨h.1.1, h.1.2, treeGo_in ht⟩

def oneZero (s : List Bool) : List Value := s.map fun b => .int .i64 (if b then 1 else 0)
theorem oneZero_set (s : List Bool) (k : Nat) : (oneZero s).set k (.int .i64 1) = oneZero (s.set k true) := by simp [oneZero, List.map_set]
def bools (s : List Bool) : List Value := s.map .bool
theorem bools_set (s : List Bool) (k : Nat) : (bools s).set k (.bool true) = bools (s.set k true) := by simp [bools, List.map_set]

/-- While nodes are looked at: which of them have a node. -/
structure KS (w0 : World) (g : Nat) (t : TypeId) (f : List Bool → List Value) (n : Nat) (s : List Bool) (w : World) : Prop where
  o : Own w g t (f s)
  l : s.length = n
  b : Below w0.heap.size w0 w
  g0 : w0.heap.size ≤ g

/-- How far it is decided: the nodes from i on are left. -/
def Left (ns : List Node) (i : Nat) (s : List Bool) : Prop := treeT ns = treeGo ns.length i (ns.drop i) s
/-- How far it is decided: of node i's kids those from k on are left. -/
def LeftK (ns : List Node) (i k : Nat) (kids : List Int) (s : List Bool) : Prop := treeT ns = (kidsGo ns.length i (kids.drop k) s).bind (treeGo ns.length (i + 1) (ns.drop (i + 1)))
theorem Left.kids {ns : List Node} {i : Nat} {s : List Bool} (h : Left ns i s) (hi : i < ns.length) : LeftK ns i 0 ns[i].kids s := by
  unfold Left at h
  unfold LeftK
  rw [h, List.drop_eq_getElem_cons hi]
  rfl
theorem LeftK.done {ns : List Node} {i k : Nat} {kids : List Int} {s : List Bool} (h : LeftK ns i k kids s) (hk : kids.length ≤ k) : Left ns (i + 1) s := by
  unfold LeftK at h
  unfold Left
  rw [h, List.drop_eq_nil_of_le hk]
  rfl
theorem LeftK.next {ns : List Node} {i k x : Nat} {kids : List Int} {s : List Bool} (h : LeftK ns i k kids s) (hk : k < kids.length) (hx : kids[k] = x) (h1 : i < x) (h2 : x < ns.length) (h3 : s.getD x false = false) : LeftK ns i (k + 1) kids (s.set x true) := by
  unfold LeftK at h ⊢
  rw [h, List.drop_eq_getElem_cons hk, hx, kidsGo, if_pos ⟨by omega, by omega, by simpa using h3⟩]
  simp
theorem LeftK.stop {ns : List Node} {i k : Nat} {x : Int} {kids : List Int} {s : List Bool} (h : LeftK ns i k kids s) (hk : k < kids.length) (hx : kids[k] = x) (hno : ¬ ((i : Int) < x ∧ x < ns.length ∧ s.getD x.toNat false = false)) : treeB ns = false := by
  unfold LeftK at h
  rw [List.drop_eq_getElem_cons hk, hx, kidsGo, if_neg hno] at h
  unfold treeB
  rw [h]
  simp
theorem Left.all {ns : List Node} {i : Nat} {s : List Bool} (h : Left ns i s) (hi : ns.length ≤ i) (h1 : 1 ≤ ns.length) (h2 : ns.length ≤ 241) : treeB ns = true := by
  unfold Left at h
  rw [List.drop_eq_nil_of_le hi] at h
  unfold treeB
  rw [h]
  simp [treeGo, h1, h2]

theorem in_is (n lo hi : Int) (b : Bool) (w : World) (h : inB n lo hi = b) :
    Calls Try.prog 52 #[.int .i64 n, .int .i64 lo, .int .i64 hi] w fun e w' => e = .returned (.bool b) ∧ w = w' := by
  subst h; exact in_any n lo hi w

set_option maxRecDepth 100000 in
set_option maxHeartbeats 2000000 in
theorem l1Tree_any (a : Option Addr) (c : Nat) (ns : List Node) (w : World) (hr : Nodes w a ns) (hm : ns.length ≤ 1048576) (hs : Small ns) :
    Calls Try.prog 68 #[.slice a ns.length c] w fun e w' => e = .returned (.bool (treeB ns)) ∧ Below w.heap.size w w' := by
  have HR := Lib.hid hr
  have HS := Lib.hid hs
  clear hr hs
  by_cases h1 : ns.length < 1
  · have h1' : (ns.length : Int) < 1 := by omega
    go_enter Try.func68, Try.ntmps68
    go_wp2
    go_ret
    exact ⟨ret_bool (by simp [treeB]; omega), Below.refl _ _⟩
  have h1' : ¬ (ns.length : Int) < 1 := by omega
  by_cases h2 : 241 < ns.length
  · have h2' : (241 : Int) < (ns.length : Int) := by omega
    go_enter Try.func68, Try.ntmps68
    go_wp2
    go_ret
    exact ⟨ret_bool (by simp [treeB]; omega), Below.refl _ _⟩
  have h2' : ¬ (241 : Int) < (ns.length : Int) := by omega
  have hmk := run_make_row' (P := Try.prog) 26 3 (.int .i64 0) 8 Try.underlying26 info3 rfl .i64 .i64 ns.length (by omega) (by omega)
  go_enter Try.func68, Try.ntmps68
  go_wp2
  clear hmk
  have HK : KS w w.heap.size 3 oneZero ns.length (List.replicate ns.length false) (w.alloc (.cells (madeCells #[.int .i64 0] ns.length) 3)) := ⟨by simpa [oneZero] using Own.made w 3 (.int .i64 0) ns.length, by simp, below_box _, Nat.le_refl _⟩
  generalize w.alloc (.cells (madeCells #[.int .i64 0] ns.length) 3) = w1 at HK ⊢
  go_loopw [4] (fun i wr => ∃ k : Nat, k ≤ ns.length ∧ i = .int .i64 k ∧ ∃ s, Hid (Left ns k s) ∧ KS w w.heap.size 3 oneZero ns.length s wr) (fun i _ => ns.length - (intOf i).toNat)
  case atStart => exact ⟨0, Nat.zero_le _, rfl, _, rfl, HK⟩
  case round =>
    clear HK
    obtain ⟨i, hi, rfl, s, HLf, HK⟩ := hrel
    by_cases hlt : i < ns.length
    · have hlt' : (i : Int) < (ns.length : Int) := by omega
      obtain ⟨hz1, hz2⟩ := HS.out _ (List.getElem_mem hlt)
      have HKf := Lib.hid (HLf.out.kids hlt)
      clear HLf
      generalize hnd : ns[i] = nd at *
      have HND := Lib.hid hnd
      clear hnd
      rename World => W
      go_wp2
      go_loopw [5] (fun k wr => ∃ j : Nat, j ≤ nd.kids.length ∧ k = .int .i64 j ∧ ∃ s, Hid (LeftK ns i j nd.kids s) ∧ KS w w.heap.size 3 oneZero ns.length s wr) (fun k _ => nd.kids.length - (intOf k).toNat)
      case atStart => exact ⟨0, Nat.zero_le _, rfl, _, HKf, HK⟩
      case round =>
        clear HK HKf
        obtain ⟨j, hj, rfl, s, HKf, HK⟩ := hrel
        obtain ⟨b, off, rfl, K, kc, J, jc, hn⟩ := (HR.out.keep HK.b).at_ hlt
        rw [HND.out] at hn
        have c1 := hn.c1
        by_cases hjl : j < nd.kids.length
        · have hjl' : (j : Int) < (nd.kids.length : Int) := by omega
          obtain ⟨kb, ko, rfl, hck⟩ := hn.k.int hjl
          generalize hx : nd.kids[j] = x at *
          have HX := Lib.hid hx
          clear hx
          by_cases hin : (i : Int) < x ∧ x < (ns.length : Int)
          · obtain ⟨xn, rfl⟩ : ∃ xn : Nat, x = xn := ⟨x.toNat, by omega⟩
            have hin1 : i < xn := by omega
            have hin2 : xn < ns.length := by omega
            have hin2' : (xn : Int) < (ns.length : Int) := by omega
            cases hsx : s.getD xn false
            · have ov : wr.cell? ⟨w.heap.size, xn, none⟩ = some (.int .i64 0) := by
                rw [HK.o.cell]
                have hl := HK.l
                rw [List.getD_eq_getElem?_getD, List.getElem?_eq_getElem (by omega)] at hsx
                simp [oneZero, List.getElem?_eq_getElem (show xn < s.length by omega)]
                simpa using hsx
              have of := HK.o.frozen xn
              have HN := Lib.hid (HKf.out.next hjl HX.out hin1 hin2 hsx)
              have HK2 : KS w w.heap.size 3 oneZero ns.length (s.set xn true) (wr.setCell ⟨w.heap.size, xn, none⟩ (.int .i64 1)) := ⟨by have := HK.o.set_ xn (.int .i64 1); rwa [oneZero_set] at this, by simp [HK.l], HK.b.setCell (Nat.le_refl _) _, HK.g0⟩
              have hsz := HK.o.lt
              clear HKf HK hsx hn
              go_wp2_with fail
              refine (in_is (xn : Int) ((i : Int) + 1) ((ns.length : Int) - 1) true _ (by simp [inB]; omega)).mono ?_
              rintro e w2 ⟨rfl, rfl⟩
              go_wp2
              go_roundw
              case rel => exact ⟨j + 1, by omega, by go_num, _, HN, HK2⟩
              case measure => simp [intOf]; omega
            · have ov : wr.cell? ⟨w.heap.size, xn, none⟩ = some (.int .i64 1) := by
                rw [HK.o.cell]
                have hl := HK.l
                rw [List.getD_eq_getElem?_getD, List.getElem?_eq_getElem (by omega)] at hsx
                simp [oneZero, List.getElem?_eq_getElem (show xn < s.length by omega)]
                simpa using hsx
              have HN := Lib.hid (HKf.out.stop hjl HX.out (by intro h; have := h.2.2; simp at this hsx; simp [this] at hsx))
              go_wp2_with fail
              refine (in_is (xn : Int) ((i : Int) + 1) ((ns.length : Int) - 1) true _ (by simp [inB]; omega)).mono ?_
              rintro e w2 ⟨rfl, rfl⟩
              go_wp2
              go_ret
              exact ⟨ret_bool HN.out.symm, HK.b⟩
          · have HN := Lib.hid (HKf.out.stop hjl HX.out (by omega))
            clear HKf
            go_wp2_with fail
            refine (in_is x ((i : Int) + 1) ((ns.length : Int) - 1) false _ (by simp [inB]; omega)).mono ?_
            rintro e w2 ⟨rfl, rfl⟩
            go_wp2
            go_ret
            exact ⟨ret_bool HN.out.symm, HK.b⟩
        · have hjl' : ¬ (j : Int) < (nd.kids.length : Int) := by omega
          have HLf := Lib.hid (HKf.out.done (by omega))
          clear HKf hn
          go_wp2
          go_roundw
          case rel => exact ⟨i + 1, by omega, by go_num, _, HLf, HK⟩
          case measure => simp [intOf]; omega
    · have hlt' : ¬ (i : Int) < (ns.length : Int) := by omega
      go_wp2
      go_ret
      exact ⟨ret_bool (HLf.out.all (by omega) (by omega) (by omega)).symm, HK.b⟩

end Go.Proofs.Ytcanhkngikeeiaa
