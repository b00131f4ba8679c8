/- The node of a text: the closure, indexOf and impl.TrieFind. -/
import Derived.Test.YtcanhkngikeeiaaN7
namespace Go.Proofs.Ytcanhkngikeeiaa
open Go.RowKit
set_option linter.unusedVariables false

/-- What the closure has captured: the nodes, the text, the place in the text. -/
structure Cap (w : World) (P Q R : Nat) (a : Option Addr) (c : Nat) (ns : List Node) (t : ByteArray) (k : Nat) : Prop where
  p : w.cell? ⟨P, 0, none⟩ = some (.slice a ns.length c)
  q : w.cell? ⟨Q, 0, none⟩ = some (.string t)
  r : w.cell? ⟨R, 0, none⟩ = some (.int .i64 k)
  n : Nodes w a ns
theorem Cap.drewN {w : World} {P Q R : Nat} {a : Option Addr} {c : Nat} {ns : List Node} {t : ByteArray} {k : Nat} (h : Cap w P Q R a c ns t k) (m : Nat) : Cap (w.drewN m) P Q R a c ns t k := ⟨h.p, h.q, h.r, h.n.drewN m⟩
theorem Cap.keep {w w' : World} {P Q R : Nat} {a : Option Addr} {c : Nat} {ns : List Node} {t : ByteArray} {k : Nat} (h : Cap w P Q R a c ns t k) (hb : Below w.heap.size w w') : Cap w' P Q R a c ns t k := ⟨cell_keep hb h.p, cell_keep hb h.q, cell_keep hb h.r, h.n.keep hb⟩

theorem hwrap (b : UInt8) : IntKind.i64.wrap (b.toNat : Int) = (b.toNat : Int) := by
  have := b.toNat_lt
  exact IntWalk.i64_in (b.toNat : Int) (by omega)

set_option maxRecDepth 100000 in
set_option maxHeartbeats 1000000 in
theorem clos_any (P Q R : Nat) (a : Option Addr) (c : Nat) (ns : List Node) (t : ByteArray) (k x : Nat) (w : World) (h : Cap w P Q R a c ns t k) (hm : ns.length ≤ 1048576) (hx : x < ns.length) (hk : k < t.size) (ht : t.size ≤ 1048576) :
    Calls Try.prog 67 #[.int .i64 x, .pointer (some ⟨P, 0, none⟩), .pointer (some ⟨Q, 0, none⟩), .pointer (some ⟨R, 0, none⟩)] w fun e w' => e = .returned (.bool (ns[x].byte == (t[k].toNat : Int))) ∧ ∃ m, w' = w.drewN m := by
  obtain ⟨b, off, rfl, K, kc, J, jc, hn⟩ := h.n.at_ hx
  have c0 := hn.c0
  have p0 := h.p
  have q0 := h.q
  have r0 := h.r
  have hx' : (x : Int) < (ns.length : Int) := by omega
  have hk' : (k : Int) < (t.size : Int) := by omega
  have hw := wrap_byte t[k]
  have hw2 : IntKind.i64.wrap (t[k].toNat : Int) = (t[k].toNat : Int) := hwrap t[k]
  clear hn h
  go_enter Try.func67, Try.ntmps67
  go_wp2
  go_quiet (fail)
  go_wp2
  go_ret
  exact ⟨rfl, _, rfl⟩

set_option maxRecDepth 100000 in
set_option maxHeartbeats 2000000 in
theorem idx_any (P Q R : Nat) (a : Option Addr) (c : Nat) (ns : List Node) (t : ByteArray) (k : Nat) (K : Option Addr) (kc : Nat) (kids : List Int) (w : World) (h : Cap w P Q R a c ns t k) (hm : ns.length ≤ 1048576) (hk : k < t.size) (ht : t.size ≤ 1048576)
    (hr : Row w K (ints kids)) (hl : kids.length ≤ 1048576) (hin : ∀ x ∈ kids, (0 : Int) < x ∧ x < ns.length) :
    Calls Try.prog 66 #[.slice K kids.length kc, .func (.func 67) #[] #[.pointer (some ⟨P, 0, none⟩), .pointer (some ⟨Q, 0, none⟩), .pointer (some ⟨R, 0, none⟩)]] w fun e w' =>
      ∃ r : Int, e = .returned (.int .i64 r) ∧ ((r = -1 ∧ kidOf ns (t[k].toNat : Int) kids = -1) ∨ ∃ j : Nat, ∃ hj : j < kids.length, r = j ∧ kids[j] = kidOf ns (t[k].toNat : Int) kids) ∧ ∃ m, w' = w.drewN m := by
  have HC := Lib.hid h
  have HR := Lib.hid hr
  have HIN := Lib.hid hin
  clear h hr hin
  go_enter Try.func66, Try.ntmps66
  go_wp2
  go_loopw [9] (fun i wr => ∃ j : Nat, j ≤ kids.length ∧ i = .int .i64 j ∧ Hid (kidOf ns (t[k].toNat : Int) kids = kidOf ns (t[k].toNat : Int) (kids.drop j)) ∧ ∃ m, wr = w.drewN m) (fun i _ => kids.length - (intOf i).toNat)
  case atStart => exact ⟨0, Nat.zero_le _, rfl, rfl, 0, rfl⟩
  case round =>
    obtain ⟨j, hj, rfl, HF, m, rfl⟩ := hrel
    by_cases hjl : j < kids.length
    · have hjl' : (j : Int) < (kids.length : Int) := by omega
      obtain ⟨kb, ko, rfl, hck⟩ := HR.out.int hjl
      replace hck : (w.drewN m).cell? ⟨kb, ko + j, none⟩ = _ := hck
      obtain ⟨hx0, hx1⟩ := HIN.out _ (List.getElem_mem hjl)
      obtain ⟨xn, hxn⟩ : ∃ xn : Nat, kids[j] = xn := ⟨kids[j].toNat, by omega⟩
      rw [hxn] at hck hx0 hx1
      have hxl : xn < ns.length := by omega
      have hcl := clos_any P Q R a c ns t k xn (w.drewN m) (HC.out.drewN m) hm hxl hk ht
      by_cases hb : ns[xn].byte = (t[k].toNat : Int)
      · have hb' : (ns[xn].byte == (t[k].toNat : Int)) = true := by simpa using hb
        rw [hb'] at hcl
        have HCL := Lib.hid hcl
        have HY := Lib.hid (kidOf_yes (ns := ns) (b := (t[k].toNat : Int)) hjl (by rw [hxn, byteAt_eq hxl]; exact hb))
        have HXN := Lib.hid hxn
        clear hb hxn hcl hb'
        go_wp2_with fail
        refine HCL.out.mono ?_
        rintro e w2 ⟨rfl, m2, rfl⟩
        go_wp2
        go_ret
        exact ⟨j, rfl, .inr ⟨j, hjl, rfl, by rw [HF.out, HY.out]⟩, m + m2, rfl⟩
      · have hb' : (ns[xn].byte == (t[k].toNat : Int)) = false := by simpa using hb
        rw [hb'] at hcl
        have HCL := Lib.hid hcl
        have HY := Lib.hid (kidOf_no (ns := ns) (b := (t[k].toNat : Int)) hjl (by rw [hxn, byteAt_eq hxl]; exact hb))
        clear hb hxn hcl hb'
        go_wp2_with fail
        refine HCL.out.mono ?_
        rintro e w2 ⟨rfl, m2, rfl⟩
        go_wp2
        go_roundw
        case rel => exact ⟨j + 1, by omega, by go_num, HF.out.trans HY.out, m + m2, rfl⟩
        case measure => simp [intOf]; omega
    · have hjl' : ¬ (j : Int) < (kids.length : Int) := by omega
      go_wp2
      go_ret
      exact ⟨-1, rfl, .inl ⟨rfl, by rw [HF.out, List.drop_eq_nil_of_le (by omega)]; rfl⟩, m, rfl⟩

end Go.Proofs.Ytcanhkngikeeiaa
