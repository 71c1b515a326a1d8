/-
  The ops of the statements on requests, plain: what one comes to behind some requests. No condition.
-/
import Derived.Test.YtohnjhifnankeaaReqMath
import Derived.Test.YtohnjhifnankeaaPlayMod
import Derived.Test.YtohnjhifnankeaaPlayBig
namespace Go.Proofs.Ytohnjhifnankeaa.ReqOpMath
open ReqMath
open Go.Proofs.Ytohnjhifnankeaa.Field (modZ bigZ modZ_lt bigZ_lt)
set_option linter.unusedVariables false

structure Ro where
  kind : Int
  tbl : Int
  wt : Int
  id : Int
  at_ : Int
  cur : Int
  done : Bool
def noRo : Ro := ⟨0, 0, 0, 0, 0, 0, false⟩
instance : Inhabited Ro := ⟨noRo⟩

def baseAt (l : List Rq) : Int := if l.length = 0 then 1 else lastAt l
def curOf (l : List Rq) (i : Int) : Int := match got l i with
  | none => 0
  | some r => r.cur
def small (l : List Rq) (o : Ro) : Ro := if modZ o.kind 11 = 10 then o else
  ⟨o.kind, modZ o.tbl 8, 1 + (modZ o.wt 8 : Int), 1 + (modZ o.id (l.length + 1) : Int), baseAt l + (bigZ o.at_ 3 : Int), (bigZ o.cur 9 : Int) + curOf l (1 + (modZ o.id (l.length + 1) : Int)), o.done⟩
def isAcc (o : Ro) : Bool := decide (modZ o.kind 7 < 3)
/-- what an op comes to -/
def step (l : List Rq) (o : Ro) : Option (List Rq) := if isAcc o then accept l (small l o).tbl (small l o).wt (small l o).at_ else chunk l (small l o).id (small l o).cur (small l o).done
theorem step_may {l m : List Rq} {o : Ro} (h : step l o = some m) : may m = true ∧ may l = true := by
  unfold step at h
  split at h
  · exact ⟨(may_accept h).1, (may_accept h).2.1⟩
  · exact ⟨(may_chunk h).1, (may_chunk h).2.1⟩
theorem baseAt_in {l : List Rq} (h : may l = true) : 0 ≤ baseAt l ∧ baseAt l ≤ 1099511627776 := by
  unfold baseAt
  split
  · omega
  · rename_i h0
    obtain ⟨m, hm⟩ : ∃ m, l.length = m + 1 := ⟨l.length - 1, by omega⟩
    have hg : l[m]? = some l[m] := List.getElem?_eq_getElem (by omega)
    rw [lastAt_last hm hg]
    have := inb_parts (may_in h hg).2
    omega
end Go.Proofs.Ytohnjhifnankeaa.ReqOpMath
