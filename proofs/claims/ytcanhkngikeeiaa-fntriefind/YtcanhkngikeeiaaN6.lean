/- The node of a text: l1Kid and spec.TrieFind. -/
import Derived.Test.YtcanhkngikeeiaaN5
namespace Go.Proofs.Ytcanhkngikeeiaa
open Go.RowKit
set_option linter.unusedVariables false

def byteAt (ns : List Node) (k : Int) : Int := (ns.getD k.toNat default).byte
theorem byteAt_eq {ns : List Node} {k : Nat} (h : k < ns.length) : byteAt ns k = ns[k].byte := by simp [byteAt, h]
/-- The first kid of a byte, -1 if there is none. -/
def kidOf (ns : List Node) (b : Int) : List Int → Int
  | [] => -1
  | k :: ks => if byteAt ns k = b then k else kidOf ns b ks
theorem kidOf_in {ns : List Node} {b : Int} : ∀ {ks : List Int}, kidOf ns b ks = -1 ∨ kidOf ns b ks ∈ ks
  | [] => .inl rfl
  | k :: ks => by
    unfold kidOf
    split
    · exact .inr (List.mem_cons_self ..)
    · rcases kidOf_in (ns := ns) (b := b) (ks := ks) with h | h
      · exact .inl h
      · exact .inr (List.mem_cons_of_mem _ h)
theorem kidOf_yes {ns : List Node} {b : Int} {ks : List Int} {j : Nat} (hj : j < ks.length) (h : byteAt ns ks[j] = b) : kidOf ns b (ks.drop j) = ks[j] := by
  rw [List.drop_eq_getElem_cons hj, kidOf, if_pos h]
theorem kidOf_no {ns : List Node} {b : Int} {ks : List Int} {j : Nat} (hj : j < ks.length) (h : byteAt ns ks[j] ≠ b) : kidOf ns b (ks.drop j) = kidOf ns b (ks.drop (j + 1)) := by
  rw [List.drop_eq_getElem_cons hj, kidOf, if_neg h]

/-- Every kid is a node. -/
def KidsIn (ns : List Node) : Prop := ∀ nd ∈ ns, ∀ x ∈ nd.kids, (0 : Int) < x ∧ x < ns.length

set_option maxRecDepth 100000 in
set_option maxHeartbeats 2000000 in
theorem l1Kid_any (a : Option Addr) (c : Nat) (ns : List Node) (i : Nat) (b : Int) (w : World) (hi : i < ns.length) (hr : Nodes w a ns) (hm : ns.length ≤ 1048576) (hs : Small ns) (hk : KidsIn ns) :
    Calls Try.prog 69 #[.slice a ns.length c, .int .i64 i, .int .i64 b] w fun e w' => e = .returned (.int .i64 (kidOf ns b ns[i].kids)) ∧ w = w' := by
  have HR := Lib.hid hr
  obtain ⟨hz1, hz2⟩ := hs _ (List.getElem_mem hi)
  have HKI := Lib.hid (hk _ (List.getElem_mem hi))
  clear hr hs hk
  obtain ⟨bb, off, rfl, K, kc, J, jc, hn⟩ := HR.out.at_ hi
  have hi' : (i : Int) < (ns.length : Int) := by omega
  generalize hnd : ns[i] = nd at *
  clear hnd
  have c1 := hn.c1
  have HK := Lib.hid hn.k
  clear hn
  go_enter Try.func69, Try.ntmps69
  go_wp2
  go_loop [7] (fun i => ∃ j : Nat, i = .int .i64 j ∧ j ≤ nd.kids.length ∧ Hid (kidOf ns b nd.kids = kidOf ns b (nd.kids.drop j))) (fun i => nd.kids.length - (intOf i).toNat)
  case atStart => exact ⟨0, rfl, Nat.zero_le _, rfl⟩
  case round =>
    obtain ⟨j, rfl, hj, HF⟩ := hrel
    by_cases hjl : j < nd.kids.length
    · have hjl' : (j : Int) < (nd.kids.length : Int) := by omega
      obtain ⟨kb, ko, rfl, hck⟩ := HK.out.int hjl
      obtain ⟨hx0, hx1⟩ := HKI.out _ (List.getElem_mem hjl)
      obtain ⟨xn, hxn⟩ : ∃ xn : Nat, nd.kids[j] = xn := ⟨nd.kids[j].toNat, by omega⟩
      rw [hxn] at hck hx0 hx1
      have hxl : xn < ns.length := by omega
      obtain ⟨b2, off2, e2, K2, kc2, J2, jc2, hn2⟩ := HR.out.at_ hxl
      injection e2 with e2; injection e2 with e3 e4; subst e3 e4
      have d0 := hn2.c0
      clear hn2
      by_cases hb : ns[xn].byte = b
      · have hb' : (ns[xn].byte == b) = true := by simpa using hb
        have HY := Lib.hid (kidOf_yes (ns := ns) (b := b) hjl (by rw [hxn, byteAt_eq hxl]; exact hb))
        have HXN := Lib.hid hxn
        clear hb hxn
        go_wp2
        go_ret
        exact ⟨by rw [HF.out, HY.out, HXN.out]; rfl, rfl⟩
      · have hb' : (ns[xn].byte == b) = false := by simpa using hb
        have HY := Lib.hid (kidOf_no (ns := ns) (b := b) hjl (by rw [hxn, byteAt_eq hxl]; exact hb))
        clear hb hxn
        go_wp2
        go_round
        case rel => exact ⟨j + 1, by go_num, by omega, HF.out.trans HY.out⟩
        case measure => simp [intOf]; omega
    · have hjl' : ¬ (j : Int) < (nd.kids.length : Int) := by omega
      go_wp2
      go_ret
      refine ⟨?_, rfl⟩
      rw [HF.out, List.drop_eq_nil_of_le (by omega)]
      rfl

/-- The node that a text leads to, from a node on. -/
def findGo (ns : List Node) : Int → List UInt8 → Int
  | i, [] => i
  | i, b :: bs => if kidOf ns b.toNat (ns.getD i.toNat default).kids < 0 then -1 else findGo ns (kidOf ns b.toNat (ns.getD i.toNat default).kids) bs
def findR (ns : List Node) (t : ByteArray) : Int := if treeB ns = true then findGo ns 0 t.data.toList else -1

end Go.Proofs.Ytcanhkngikeeiaa
