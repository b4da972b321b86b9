/- What Decode and Unpack answer: told, their deferred closures, readOps. -/
import Derived.Test.YtcmoajlcmeimiaaDoorVj
import Derived.Defers
import Derived.Recover
import Derived.WalkLawsBesides
namespace Go.Proofs.YtcmoajlcmeimiaaDoor
namespace Vk
set_option linter.unusedVariables false
open Go.ChangeShapes Go.WideShapes Go.ChangeAt Go.RowKit Cm Ka Kb Na Om Oa Oz Oc Og Oi Ov Va Vb Vc Vd Ve Vf Vg Vh Vi Vj
open La (bel bel_drew errV_zero errV_ne own_ge own_grow own_below)

theorem told_nil (w : World) : Calls Tryd.prog 59 #[.nilIface] w fun e w' => e = .returned .nilIface ∧ w' = w := by
  go_enter Tryd.func59, Tryd.ntmps59
  go_wp2_with fail
  go_ret
  exact ⟨rfl, rfl⟩
theorem told_err (w : World) : Calls Tryd.prog 59 #[.iface 74 (.int .i64 2)] w fun e w' => e = .returned (.iface 74 (.int .i64 2)) ∧ w' = w := by
  have hta : ∀ w, (Instr.typeAssert (.iface 74 (.int .i64 2)) 20 74 true).run Tryd.prog w = .ok (.tuple #[.int .i64 2, .bool true]) w := fun _ => by kernel_rfl
  go_enter Tryd.func59, Tryd.ntmps59
  go_wp2_with fail
  go_ret
  exact ⟨rfl, rfl⟩
theorem store_one (h : Nat) (y v : Value) (w : World) (hh : w.heap[h]? = some (.cells #[y] 31 (0, 0))) (hv : v.oneCell' = true) : (storeCells ⟨h, 0, none⟩ [v]).run Tryd.prog w = .ok () (w.setCell ⟨h, 0, none⟩ v) := by
  have ch : w.cell? ⟨h, 0, none⟩ = some y := cell_of hh rfl
  have fh : w.frozen? ⟨h, 0, none⟩ = false := free_of hh
  have h1 : (store ⟨h, 0, none⟩ v).run Tryd.prog w = .ok () (w.setCell ⟨h, 0, none⟩ v) := by
    rw [run_store _ _ _ _ _ hv, ch]; simp only [fh]; rfl
  simp [storeCells, Addr.add, h1]
theorem idle_dec (h : Nat) (y : Value) (w : World) (hh : w.heap[h]? = some (.cells #[y] 31 (0, 0))) :
    CallsD Tryd.prog 58 #[.pointer (some ⟨h, 0, none⟩)] .returning w fun e u' w' => e = .returned (.tuple #[]) ∧ u' = .returning ∧ w' = w.setCell ⟨h, 0, none⟩ .nilIface := by
  have hst := store_one h y .nilIface w hh rfl
  refine callsD_of_wpS Tryd.func58 rfl fun c₀ cs hu => ?_
  apply wpS_region
  simp [wpOpsS, go_sem, recoverD, hu, Tryd.ntmps58]
  refine (told_nil w).mono ?_
  rintro e w2 ⟨rfl, hw⟩
  have hw2 := hw.symm; subst hw2; clear hw
  simp [hst, Oper.upon, Result.andThen]
  refine ⟨rfl, .returning, ?_, .tuple #[], ?_, rfl, rfl, rfl⟩
  · cases c₀; simp_all
  · simp [results, Tryd.results58]
theorem panics_dec (h : Nat) (y : Value) (older : List PanicEntry) (w : World) (hh : w.heap[h]? = some (.cells #[y] 31 (0, 0))) :
    CallsD Tryd.prog 58 #[.pointer (some ⟨h, 0, none⟩)] (.panicking ({ v := .iface 74 (.int .i64 2), recovered := false } :: older)) w fun e u' w' => e = .returned (.tuple #[]) ∧ u' = .panicking ({ v := .iface 74 (.int .i64 2), recovered := true } :: older) ∧ w' = w.setCell ⟨h, 0, none⟩ (.iface 74 (.int .i64 2)) := by
  have hst := store_one h y (.iface 74 (.int .i64 2)) w hh rfl
  refine callsD_of_wpS Tryd.func58 rfl fun c₀ cs hu => ?_
  apply wpS_region
  simp [wpOpsS, go_sem, recoverD, hu, Tryd.ntmps58]
  refine (told_err w).mono ?_
  rintro e w2 ⟨rfl, hw⟩
  have hw2 := hw.symm; subst hw2; clear hw
  simp [hst, Oper.upon, Result.andThen]
  refine ⟨rfl, .panicking ({ v := .iface 74 (.int .i64 2), recovered := true } :: older), ?_, .tuple #[], ?_, rfl, rfl, rfl⟩
  · cases c₀; simp_all
  · simp [results, Tryd.results58]
theorem idle_unp (h : Nat) (y : Value) (w : World) (hh : w.heap[h]? = some (.cells #[y] 31 (0, 0))) :
    CallsD Tryd.prog 62 #[.pointer (some ⟨h, 0, none⟩)] .returning w fun e u' w' => e = .returned (.tuple #[]) ∧ u' = .returning ∧ w' = w.setCell ⟨h, 0, none⟩ .nilIface := by
  have hst := store_one h y .nilIface w hh rfl
  refine callsD_of_wpS Tryd.func62 rfl fun c₀ cs hu => ?_
  apply wpS_region
  simp [wpOpsS, go_sem, recoverD, hu, Tryd.ntmps62]
  refine (told_nil w).mono ?_
  rintro e w2 ⟨rfl, hw⟩
  have hw2 := hw.symm; subst hw2; clear hw
  simp [hst, Oper.upon, Result.andThen]
  refine ⟨rfl, .returning, ?_, .tuple #[], ?_, rfl, rfl, rfl⟩
  · cases c₀; simp_all
  · simp [results, Tryd.results62]
theorem panics_unp (h : Nat) (y : Value) (older : List PanicEntry) (w : World) (hh : w.heap[h]? = some (.cells #[y] 31 (0, 0))) :
    CallsD Tryd.prog 62 #[.pointer (some ⟨h, 0, none⟩)] (.panicking ({ v := .iface 74 (.int .i64 2), recovered := false } :: older)) w fun e u' w' => e = .returned (.tuple #[]) ∧ u' = .panicking ({ v := .iface 74 (.int .i64 2), recovered := true } :: older) ∧ w' = w.setCell ⟨h, 0, none⟩ (.iface 74 (.int .i64 2)) := by
  have hst := store_one h y (.iface 74 (.int .i64 2)) w hh rfl
  refine callsD_of_wpS Tryd.func62 rfl fun c₀ cs hu => ?_
  apply wpS_region
  simp [wpOpsS, go_sem, recoverD, hu, Tryd.ntmps62]
  refine (told_err w).mono ?_
  rintro e w2 ⟨rfl, hw⟩
  have hw2 := hw.symm; subst hw2; clear hw
  simp [hst, Oper.upon, Result.andThen]
  refine ⟨rfl, .panicking ({ v := .iface 74 (.int .i64 2), recovered := true } :: older), ?_, .tuple #[], ?_, rfl, rfl, rfl⟩
  · cases c₀; simp_all
  · simp [results, Tryd.results62]

end Vk
end Go.Proofs.YtcmoajlcmeimiaaDoor
