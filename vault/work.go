package vault

import "gladstone/api"

// vault is a vault at work.
type vault struct {
	api.Vault
	start desk
}

// open returns the vault at work, or its first error.
func open(given api.Vault) (vault, api.Errno) {
	if e := checkVault(given); e != api.OK {
		return vault{}, e
	}
	work := vault{Vault: given}
	each(work.start.put, given.Start...)
	return work, api.OK
}
