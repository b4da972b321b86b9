/- What Decode and Unpack answer: told, their deferred closures, readOps. -/
import Derived.Test.YtcmoajlcmeimiaaVj
import Derived.Defers
import Derived.Recover
import Derived.WalkLawsBesides
namespace Go.Proofs.Ytcmoajlcmeimiaa
namespace Vk
set_option linter.unusedVariables false
open Go.ChangeShapes Go.WideShapes Go.ChangeAt Go.RowKit Cm Ka Kb Na Om Oa Oz Oc Og Oi Ov Va Vb Vc Vd Ve Vf Vg Vh Vi Vj
open La (bel bel_drew errV_zero errV_ne own_ge own_grow own_below)

theorem told_nil (w : World) : Calls Try.prog 32 #[.nilIface] w fun e w' => e = .returned .nilIface ∧ w' = w := by
  go_enter Try.func32, Try.ntmps32
  go_wp2_with fail
  go_ret
  exact ⟨rfl, rfl⟩
theorem told_err (w : World) : Calls Try.prog 32 #[.iface 59 (.int .i64 2)] w fun e w' => e = .returned (.iface 59 (.int .i64 2)) ∧ w' = w := by
  have hta : ∀ w, (Instr.typeAssert (.iface 59 (.int .i64 2)) 20 59 true).run Try.prog w = .ok (.tuple #[.int .i64 2, .bool true]) w := fun _ => by kernel_rfl
  go_enter Try.func32, Try.ntmps32
  go_wp2_with fail
  go_ret
  exact ⟨rfl, rfl⟩
theorem store_one (h : Nat) (y v : Value) (w : World) (hh : w.heap[h]? = some (.cells #[y] 28 (0, 0))) (hv : v.oneCell' = true) : (storeCells ⟨h, 0, none⟩ [v]).run Try.prog w = .ok () (w.setCell ⟨h, 0, none⟩ v) := by
  have ch : w.cell? ⟨h, 0, none⟩ = some y := cell_of hh rfl
  have fh : w.frozen? ⟨h, 0, none⟩ = false := free_of hh
  have h1 : (store ⟨h, 0, none⟩ v).run Try.prog w = .ok () (w.setCell ⟨h, 0, none⟩ v) := by
    rw [run_store _ _ _ _ _ hv, ch]; simp only [fh]; rfl
  simp [storeCells, Addr.add, h1]
theorem idle_dec (h : Nat) (y : Value) (w : World) (hh : w.heap[h]? = some (.cells #[y] 28 (0, 0))) :
    CallsD Try.prog 31 #[.pointer (some ⟨h, 0, none⟩)] .returning w fun e u' w' => e = .returned (.tuple #[]) ∧ u' = .returning ∧ w' = w.setCell ⟨h, 0, none⟩ .nilIface := by
  have hst := store_one h y .nilIface w hh rfl
  refine callsD_of_wpS Try.func31 rfl fun c₀ cs hu => ?_
  apply wpS_region
  simp [wpOpsS, go_sem, recoverD, hu, Try.ntmps31]
  refine (told_nil w).mono ?_
  rintro e w2 ⟨rfl, hw⟩
  have hw2 := hw.symm; subst hw2; clear hw
  simp [hst, Oper.upon, Result.andThen]
  refine ⟨rfl, .returning, ?_, .tuple #[], ?_, rfl, rfl, rfl⟩
  · cases c₀; simp_all
  · simp [results, Try.results31]
theorem panics_dec (h : Nat) (y : Value) (older : List PanicEntry) (w : World) (hh : w.heap[h]? = some (.cells #[y] 28 (0, 0))) :
    CallsD Try.prog 31 #[.pointer (some ⟨h, 0, none⟩)] (.panicking ({ v := .iface 59 (.int .i64 2), recovered := false } :: older)) w fun e u' w' => e = .returned (.tuple #[]) ∧ u' = .panicking ({ v := .iface 59 (.int .i64 2), recovered := true } :: older) ∧ w' = w.setCell ⟨h, 0, none⟩ (.iface 59 (.int .i64 2)) := by
  have hst := store_one h y (.iface 59 (.int .i64 2)) w hh rfl
  refine callsD_of_wpS Try.func31 rfl fun c₀ cs hu => ?_
  apply wpS_region
  simp [wpOpsS, go_sem, recoverD, hu, Try.ntmps31]
  refine (told_err w).mono ?_
  rintro e w2 ⟨rfl, hw⟩
  have hw2 := hw.symm; subst hw2; clear hw
  simp [hst, Oper.upon, Result.andThen]
  refine ⟨rfl, .panicking ({ v := .iface 59 (.int .i64 2), recovered := true } :: older), ?_, .tuple #[], ?_, rfl, rfl, rfl⟩
  · cases c₀; simp_all
  · simp [results, Try.results31]
theorem idle_unp (h : Nat) (y : Value) (w : World) (hh : w.heap[h]? = some (.cells #[y] 28 (0, 0))) :
    CallsD Try.prog 36 #[.pointer (some ⟨h, 0, none⟩)] .returning w fun e u' w' => e = .returned (.tuple #[]) ∧ u' = .returning ∧ w' = w.setCell ⟨h, 0, none⟩ .nilIface := by
  have hst := store_one h y .nilIface w hh rfl
  refine callsD_of_wpS Try.func36 rfl fun c₀ cs hu => ?_
  apply wpS_region
  simp [wpOpsS, go_sem, recoverD, hu, Try.ntmps36]
  refine (told_nil w).mono ?_
  rintro e w2 ⟨rfl, hw⟩
  have hw2 := hw.symm; subst hw2; clear hw
  simp [hst, Oper.upon, Result.andThen]
  refine ⟨rfl, .returning, ?_, .tuple #[], ?_, rfl, rfl, rfl⟩
  · cases c₀; simp_all
  · simp [results, Try.results36]
theorem panics_unp (h : Nat) (y : Value) (older : List PanicEntry) (w : World) (hh : w.heap[h]? = some (.cells #[y] 28 (0, 0))) :
    CallsD Try.prog 36 #[.pointer (some ⟨h, 0, none⟩)] (.panicking ({ v := .iface 59 (.int .i64 2), recovered := false } :: older)) w fun e u' w' => e = .returned (.tuple #[]) ∧ u' = .panicking ({ v := .iface 59 (.int .i64 2), recovered := true } :: older) ∧ w' = w.setCell ⟨h, 0, none⟩ (.iface 59 (.int .i64 2)) := by
  have hst := store_one h y (.iface 59 (.int .i64 2)) w hh rfl
  refine callsD_of_wpS Try.func36 rfl fun c₀ cs hu => ?_
  apply wpS_region
  simp [wpOpsS, go_sem, recoverD, hu, Try.ntmps36]
  refine (told_err w).mono ?_
  rintro e w2 ⟨rfl, hw⟩
  have hw2 := hw.symm; subst hw2; clear hw
  simp [hst, Oper.upon, Result.andThen]
  refine ⟨rfl, .panicking ({ v := .iface 59 (.int .i64 2), recovered := true } :: older), ?_, .tuple #[], ?_, rfl, rfl, rfl⟩
  · cases c₀; simp_all
  · simp [results, Try.results36]

end Vk
end Go.Proofs.Ytcmoajlcmeimiaa
